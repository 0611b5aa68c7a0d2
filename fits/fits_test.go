package fits_test

import (
	"fmt"
	"regexp"
	"slices"
	"strings"
	"testing"

	"gramarye/api"
	"gramarye/bind"
	"gramarye/bnf"
	"gramarye/fits"
	"gramarye/read"
	"gramarye/tree"
	"gramarye/walk"
)

// bound reads and binds a grammar of the tokens A to F.
func bound(t *testing.T, rules string) api.Grammar {
	t.Helper()
	g, at, e := read.Parse("grammar g; look 1; token A, B, C, D, E, F; " + rules)
	if e != api.OK {
		t.Fatalf("%q: %d, %v", rules, at, e)
	}
	g, at, e = bind.Bind(g)
	if e != api.OK {
		t.Fatalf("%q: %d, %v", rules, at, e)
	}
	return g
}

// parse makes a tree of its text: (0 l:A !B ?3 <2> (1)), rules by number, what was skipped by how much.
func parse(s string) api.Tree {
	var t api.Tree
	var open []int
	at := 0
	for _, w := range strings.Fields(strings.ReplaceAll(s, ")", " )")) {
		if w == ")" {
			t.L[open[len(open)-1]].To = at
			open = open[:len(open)-1]
			continue
		}
		x := api.Tnode{Kind: api.TLeaf, At: at}
		if i := strings.Index(w, ":"); i >= 0 {
			x.Label, w = w[:i], w[i+1:]
		}
		switch w[0] {
		case '(':
			x.Kind, x.N = api.TRule, int(w[1]-'0')
		case '!':
			x.Kind, x.N = api.TLost, int(w[1]-'@')
		case '?':
			x.Kind, x.N = api.TGap, int(w[1]-'0')
		case '<':
			x.Kind = api.TSkip
			at += int(w[1] - '0')
		default:
			x.N = int(w[0] - '@')
			at++
		}
		x.To = at
		if len(open) > 0 {
			up := &t.L[open[len(open)-1]]
			up.L = append(up.L, len(t.L))
		}
		if x.Kind == api.TRule {
			open = append(open, len(t.L))
		}
		t.L = append(t.L, x)
	}
	return t
}

// Promise 24.1, by a table: the place of the first rule that does not fit.
func TestTable(t *testing.T) {
	for _, x := range []struct {
		rules, tree string
		want        int
	}{
		{"a: A B?;", "(0 A)", -1},
		{"a: A B?;", "(0 B)", 0},
		{"a: A B?;", "(0 A B)", -1},
		{"a: A B?;", "(0 !A !B)", -1},
		{"a: A B?;", "(0 <2> A <1> B <3>)", -1},
		{"a: A B?;", "(0 A A)", 0},
		{"a: A B?;", "(0 A B B)", 0},
		{"a: A B?;", "(0)", 0},
		{"a: A B?;", "(1 A)", 0},
		{"a: A B?;", "l:(0 A)", 0},
		{"a: A B?;", "(0 l:A)", 0},
		{"a: A B?;", "(0 A ?1)", 0},
		{"a: ;", "(0)", -1},
		{"a: ;", "(0 <1>)", -1},
		{"a: ;", "(0 A)", 0},
		{"a: A | B C;", "(0 ?1)", -1},
		{"a: A | B C;", "(0 ?2)", 0},
		{"a: A | B C;", "(0 ?0)", 0},
		{"a: A | B C;", "(0 l:?1)", 0},
		{"a: A | B C;", "(0 B C)", -1},
		{"a: A | B C;", "(0 B)", 0},
		{"a: A | B C;", "(0 A ?1)", 0},
		{"a: l=(A | B C)*;", "(0)", -1},
		{"a: l=(A | B C)*;", "(0 l:A l:?2 l:B l:C l:!A)", -1},
		{"a: l=(A | B C)*;", "(0 l:A l:?1)", 0},
		{"a: l=(A | B C)*;", "(0 l:A ?2)", 0},
		{"a: l=(A | B C)*;", "(0 l:B C)", 0},
		{"a: (A | B C)+;", "(0)", 0},
		{"a: (A | B C)+;", "(0 B C)", -1},
		{"a: (A | B C)+;", "(0 ?2 ?2 B C)", -1},
		{"a: (A | B C)+;", "(0 ?1)", 0},
		{"a: l=(A m=(B n=C)? b); b: D;", "(0 l:A m:B n:C l:(1 D))", -1},
		{"a: l=(A m=(B n=C)? b); b: D;", "(0 l:A l:(1 D))", -1},
		{"a: l=(A m=(B n=C)? b); b: D;", "(0 l:A (1 D))", 0},
		{"a: l=(A m=(B n=C)? b); b: D;", "(0 l:A l:(1 l:D))", 2},
		{"a: l=(A m=(B n=C)? b); b: D;", "(0 l:A l:(0 D))", 0},
		{"a: b* A; b: B a?;", "(0 (1 B) (1 B (0 (1 B) A)) !A)", -1},
		{"a: b* A; b: B a?;", "(0 (1 B) (1 B (0 (1 C) A)) !A)", 6},
		{"a: b* A; b: B a?;", "(0 (1 B) (1 (0 (1 C) A)) !A)", 3},
		{"a: b* A; b: B a?;", "(0 (1 B) (2 B) !A)", 0},
		{"a: (A?)* ((B)* | )+ ;", "(0 A A B ?4 B)", -1},
		{"a: (A? B?)+;", "(0)", -1},
		{"a: (A? B?)+;", "(0 B A B B A)", -1},
		{"a: (A? B?)+;", "(0 B A C B A)", 0},
		{"a: (A | A B) (B C | C);", "(0 A B C)", -1},
		{"a: (A | A B) (B C | C);", "(0 A B B C)", -1},
		{"a: (A | A B) (B C | C);", "(0 A ?2)", -1},
		{"a: (A | A B) (B C | C);", "(0 ?1 A)", 0},
	} {
		g, r := bound(t, x.rules), parse(x.tree)
		if tree.May(r) != api.OK {
			t.Fatalf("%s may not be", x.tree)
		}
		at, e := fits.Wrong(g, r)
		is, f := fits.Fits(g, r)
		if e != api.OK || f != api.OK || at != x.want || is != (x.want < 0) {
			t.Errorf("%q, %s: %d, %v, %v, want %d", x.rules, x.tree, at, is, e, x.want)
		}
	}
}

// pattern is a regular expression for rows of a node's parts.
func pattern(g api.Grammar, non map[int]int, i int, label string) string {
	x := g.L[i]
	if x.Label != "" {
		label = x.Label
	}
	var l []string
	for _, c := range x.L {
		l = append(l, "("+pattern(g, non, c, label)+")")
	}
	switch x.Kind {
	case api.KTok:
		return fmt.Sprintf("(%d|%d)/%d/%s;", api.TLeaf, api.TLost, x.N, label)
	case api.KRef:
		return fmt.Sprintf("%d/%d/%s;", api.TRule, x.N, label)
	case api.KSeq:
		return strings.Join(l, "")
	case api.KAlt:
		return strings.Join(l, "|") + fmt.Sprintf("|%d/%d/%s;", api.TGap, non[i], label)
	}
	return l[0] + map[int]string{api.KOpt: "?", api.KStar: "*", api.KPlus: "+"}[x.Kind]
}

// Promises 24.1 and 24.2: what is made by layer 23 fits; what is made of it is held against regular expressions.
func TestMade(t *testing.T) {
	for _, rules := range []string{
		"a: A B* C;",
		"a: x=b (A y=b)*; b: B | C a D;",
		"a sync (D): l=(A | m=B)+ D;",
		"a: (l=A (B | C m=a D)+)? b; b: E* ;",
		"a: b b c?; b sync (C): (A | B)? c; c: C | D E?;",
	} {
		g := bound(t, rules)
		b, _ := bnf.Of(g)
		non := map[int]int{}
		for n, i := range b.Of {
			non[i] = n
		}
		var all []*regexp.Regexp
		for _, r := range g.Rules {
			all = append(all, regexp.MustCompile("^("+pattern(g, non, r.Root, "")+")$"))
		}
		for n := range 600 {
			var w []int
			for m := n * n; m > 0; m /= 6 {
				w = append(w, m%6+1)
			}
			r, _, e := walk.Walk(g, w)
			if is, f := fits.Fits(g, r); e != api.OK || f != api.OK || !is {
				t.Fatalf("%q, %v: %v, %v, %v", rules, w, e, f, is)
			}
			change(&r, n)
			if tree.May(r) != api.OK {
				continue
			}
			at, e := fits.Wrong(g, r)
			if want := first(g, r, all); e != api.OK || at != want {
				t.Fatalf("%q, %v: %d, %v, want %d", rules, r.L, at, e, want)
			}
		}
	}
}

// change makes another tree of one, now and then one that may not be.
func change(t *api.Tree, n int) {
	x := &t.L[n%len(t.L)]
	switch n % 7 {
	case 0:
		x.N++
	case 1:
		x.N--
	case 2:
		x.Label = "l"
	case 3:
		x.Label = ""
	case 4:
		x.Kind = n%5 + 1
	case 5:
		x.Kind = api.TGap
		x.N = n % 9
	case 6:
		x.N = n % 4
	}
}

// first is the place of the first rule whose parts its regular expression does not match.
func first(g api.Grammar, t api.Tree, all []*regexp.Regexp) int {
	if t.L[0].N != 0 || t.L[0].Label != "" {
		return 0
	}
	for i, x := range t.L {
		if x.Kind != api.TRule {
			continue
		}
		s := ""
		for _, c := range x.L {
			if p := t.L[c]; p.Kind != api.TSkip {
				s += fmt.Sprintf("%d/%d/%s;", p.Kind, p.N, p.Label)
			}
		}
		if x.N >= len(all) || !all[x.N].MatchString(s) {
			return i
		}
	}
	return -1
}

// Promise 24.1: errors, in their order.
func TestWrong(t *testing.T) {
	lost := bound(t, "a: b; b: A;")
	lost.L[0].N = 0
	for i, x := range []struct {
		g    api.Grammar
		t    api.Tree
		want api.Errno
	}{
		{api.Grammar{}, api.Tree{}, api.ErrFull},
		{lost, api.Tree{}, api.ErrName},
		{bound(t, "a: A;"), api.Tree{}, api.ErrForm},
		{bound(t, "a: A;"), parse("A"), api.ErrForm},
		{bound(t, "a: a;"), parse("(0)"), api.OK},
	} {
		at, e := fits.Wrong(x.g, x.t)
		is, f := fits.Fits(x.g, x.t)
		if e != x.want || f != x.want || at != 0 || is {
			t.Errorf("%d: %d, %v, %v", i, at, e, f)
		}
	}
}

// A tree as wide, and rules as knotted, as can be.
func TestWide(t *testing.T) {
	r := api.Tree{L: []api.Tnode{{Kind: api.TRule, To: 99999}}}
	for i := 1; i < 100000; i++ {
		r.L[0].L = append(r.L[0].L, i)
		r.L = append(r.L, api.Tnode{Kind: api.TLeaf, N: 1 + i%2, At: i - 1, To: i})
	}
	knot := "(A? | B | A B)"
	for range 7 {
		knot = "(" + knot + "* B*)"
	}
	for rules, want := range map[string]int{"a: A* (A | B)*;": -1, "a: (A? | B)+ C?;": -1, "a: (B A)*;": 0, "a: (B A)* B;": -1, "a: " + knot + ";": -1} {
		if at, e := fits.Wrong(bound(t, rules), r); at != want || e != api.OK {
			t.Errorf("%q: %d, %v", rules, at, e)
		}
	}
	if !slices.Equal(tree.Word(r)[:3], []int{2, 1, 2}) {
		t.Errorf("changed")
	}
}
