package cost_test

import (
	"fmt"
	"strings"
	"testing"

	"gramarye/api"
	"gramarye/bind"
	"gramarye/bnf"
	"gramarye/cost"
	"gramarye/read"
)

// bound reads and binds a grammar of the tokens X, Y, Z.
func bound(t *testing.T, rules string) api.Grammar {
	t.Helper()
	g, at, e := read.Parse("grammar g; look 1; token X, Y, Z; " + rules)
	if e != api.OK {
		t.Fatalf("%q: %d, %v", rules, at, e)
	}
	g, at, e = bind.Bind(g)
	if e != api.OK {
		t.Fatalf("%q: %d, %v", rules, at, e)
	}
	return g
}

// Promises 20.1 and 20.2, by a table.
func TestTable(t *testing.T) {
	for _, x := range []struct {
		rules, of, nodes string
		most             int
	}{
		{"a: X b; b: Y;", "[6 2]", "[5 1 3 1]", 6},
		{"a: X;", "[2]", "[1]", 2},
		{"a: ;", "[2]", "[1]", 2},
		{"a: X Y Z;", "[5]", "[4 1 1 1]", 5},
		{"a: X? (Y Z)*;", "[4]", "[3 1 1 1 3 1 1]", 4},
		{"a: (X Y)+;", "[6]", "[5 3 1 1]", 6},
		{"a: X | Y Z;", "[2]", "[1 1 3 1 1]", 2},
		{"a: X Y Z | (X? Y?);", "[5]", "[4 4 1 1 1 3 1 1 1 1]", 5},
		{"a: X Y Z | ;", "[3]", "[2 4 1 1 1 1]", 3},
		{"a: X | Y? | b Z? | (); b: X* Y?;", "[9 4]", "[8 1 1 1 7 5 1 1 1 3 1 1 1 1]", 9},
		{"a: X | b b; b: X?;", "[9 2]", "[8 1 7 3 3 1 1]", 9},
		{"a: X a? | Y (a Z)*;", "[2]", "[1 3 1 1 3 3 1 1 5 3 1]", 2},
		{"a: (X a)* b; b: (Y a?)+;", "[10 6]", "[9 1 13 1 11 7 5 3 1 1 11]", 10},
		{"a: X (a | Y);", "[4]", "[3 1 1 5 1]", 4},
		{"a: (X+)+;", "[6]", "[5 3 1]", 6},
		{"b: ; a: b b;", "[2 8]", "[1 7 3 3]", 8},
	} {
		g := bound(t, x.rules)
		of, e := cost.Of(g)
		nodes, f := cost.Nodes(g)
		if e != api.OK || f != api.OK || fmt.Sprint(of) != x.of || fmt.Sprint(nodes) != x.nodes || cost.Most(g) != x.most {
			t.Errorf("%q: %v, %v, %d, %v, want %s, %s, %d", x.rules, of, nodes, cost.Most(g), e, x.of, x.nodes, x.most)
		}
	}
}

// doubled is rules each of which names the next one twice.
func doubled(n int, last string) string {
	s := ""
	for i := range n {
		s += fmt.Sprintf("r%d: r%d r%d; ", i, i+1, i+1)
	}
	return s + fmt.Sprintf("r%d: %s;", n, last)
}

// Promises 20.1 and 20.2: errors, in their order; the limit.
func TestWrong(t *testing.T) {
	lost := bound(t, "a: X b; b: Y;")
	lost.L[2].N = 0
	for i, x := range []struct {
		g    api.Grammar
		want api.Errno
		most int
	}{
		{api.Grammar{}, api.ErrFull, 0},
		{lost, api.ErrName, 0},
		{bound(t, "a: X a;"), api.ErrDead, 0},
		{bound(t, "a: a | b; b: X b;"), api.ErrDead, 0},
		{bound(t, "a: X; b: X (Y b)+;"), api.ErrDead, 0},
		{bound(t, "a: (X?)*;"), api.ErrLeft, 0},
		{bound(t, "a: X; b: (b X)?;"), api.ErrLeft, 0},
		{bound(t, "a: a | "+strings.Repeat("X? ", 190)+";"), api.ErrLeft, 0},
		{bound(t, doubled(7, "X X X X X X")), api.OK, 8*128 + 4*127},
		{bound(t, doubled(8, "X X X X X X")), api.ErrLimit, 0},
		{bound(t, "a: (X a)* b; b: (Y a)+;"), api.ErrDead, 0},
		{bound(t, doubled(39, "X")), api.ErrLimit, 0},
		{bound(t, "z: X; "+doubled(38, "")), api.ErrLimit, 0},
		{bound(t, doubled(8, "")), api.OK, 2*256 + 4*255},
		{bound(t, doubled(8, "X Y Z")), api.ErrLimit, 0},
	} {
		of, e := cost.Of(x.g)
		nodes, f := cost.Nodes(x.g)
		if e != x.want || f != x.want || e != api.OK && len(of)+len(nodes) > 0 || cost.Most(x.g) != x.most {
			t.Errorf("%d: %v, %v, most %d, want %v, %d", i, e, f, cost.Most(x.g), x.want, x.most)
		}
	}
}

// Promise 20.1: just at the limit, and one above it.
func TestEdge(t *testing.T) {
	row := func(n int) string { return strings.TrimSpace(strings.Repeat("X ", n)) }
	rules := func(n int) string {
		return "a: b b b b b b b b b; b: " + row(200) + "; c: a " + row(n) + ";"
	}
	// b costs 202, a 2 + 9 * 203 = 1829, c 2 + 1830 + n.
	for n, want := range map[int]api.Errno{168: api.OK, 169: api.ErrLimit} {
		g := bound(t, rules(n))
		if l, e := cost.Of(g); e != want || e == api.OK && fmt.Sprint(l) != "[1829 202 2000]" {
			t.Errorf("%d: %v, %v", n, l, e)
		}
	}
}

// Promise 20.3: a rule costs more than each one that must be read in it.
func TestMore(t *testing.T) {
	for _, rules := range []string{
		"a: X b+ c; b: (c X); c: d Z; d: ;",
		"a: (b | Y c)? d; b: X a? c; c: X a* Y; d: Z (b | c | );",
	} {
		g := bound(t, rules)
		b, _ := bnf.Of(g)
		l, e := cost.Of(g)
		if e != api.OK {
			t.Fatalf("%q: %v", rules, e)
		}
		for _, p := range b.L[:len(g.Rules)] {
			for _, s := range p.Right {
				if !s.Tok && s.N < len(g.Rules) && l[p.Left] <= l[s.N] {
					t.Errorf("%q: %v, rule %d names %d", rules, l, p.Left, s.N)
				}
			}
		}
	}
}
