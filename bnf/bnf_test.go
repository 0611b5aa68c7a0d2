package bnf_test

import (
	"fmt"
	"math"
	"reflect"
	"slices"
	"strings"
	"testing"

	"gramarye/api"
	"gramarye/bind"
	"gramarye/bnf"
	"gramarye/gram"
	"gramarye/read"
)

// bound reads and binds a grammar of the tokens X, Y, Z.
func bound(t *testing.T, rules string) api.Grammar {
	t.Helper()
	g, at, e := read.Parse("grammar g; look 2; token X, Y, Z; " + rules)
	if e != api.OK {
		t.Fatalf("%q: %d, %v", rules, at, e)
	}
	g, at, e = bind.Bind(g)
	if e != api.OK {
		t.Fatalf("%q: %d, %v", rules, at, e)
	}
	return g
}

// tell tells symbols, and productions: tokens as letters, nonterminals as digits.
func tell(l []api.Sym) string {
	s := ""
	for _, x := range l {
		if x.Tok {
			s += string(rune('W' + x.N))
		} else {
			s += fmt.Sprint(x.N)
		}
	}
	return s
}

func tellAll(b api.Bnf) string {
	s := fmt.Sprint(b.Toks, b.Look, b.Of)
	for _, p := range b.L {
		s += fmt.Sprint(" ", p.Left, ":", tell(p.Right))
	}
	return s
}

// Promises 9.2 and 9.3: plain rules of grammars.
func TestOf(t *testing.T) {
	for _, x := range []struct{ rules, want string }{
		{"a: X+;", "3 2 [-1 0] 0:X1 1:X1 1:"},
		{"a: ;", "3 2 [-1] 0:"},
		{"a: X b Y; b: Z;", "3 2 [-1 -1] 0:X1Y 1:Z"},
		{"a: X | Y Z | ;", "3 2 [-1 0] 0:1 1:X 1:YZ 1:"},
		{"a: X?;", "3 2 [-1 0] 0:1 1:X 1:"},
		{"a: (X b)*; b: a;", "3 2 [-1 -1 0] 0:2 1:0 2:X12 2:"},
		{"a: ((X+)+)+;", "3 2 [-1 0 1 2] 0:X321 1:X321 1: 2:X32 2: 3:X3 3:"},
		{"a: X (Y | Z?) b+; b: (X Y)* Z;", "3 2 [-1 -1 2 4 6 9] 0:X214 1:5Z 2:Y 2:3 3:Z 3: 4:14 4: 5:XY5 5:"},
		{"a: (() | ())?;", "3 2 [-1 0 1] 0:1 1:2 1: 2: 2:"},
	} {
		b, e := bnf.Of(bound(t, x.rules))
		if got := tellAll(b); e != api.OK || got != x.want {
			t.Errorf("%q: %s, %v, want %s", x.rules, got, e, x.want)
		}
		if bnf.May(b) != api.OK || !bnf.Same(b, b) {
			t.Errorf("%q: may not be: %v", x.rules, bnf.May(b))
		}
		for n, at := range b.Of {
			if l := len(bnf.Prods(b, n)); at < 0 && l != 1 || at >= 0 && l < 2 {
				t.Errorf("%q: nonterminal %d has %d productions", x.rules, n, l)
			}
		}
	}
}

// Promise 9.2: nodes are taken as they stand.
func TestStand(t *testing.T) {
	g := bound(t, "a: (X? | Y) Z;")
	// The KOpt and the KAlt change places with what stands between.
	g.L = []api.Node{
		{Kind: api.KSeq, L: []int{2, 1}}, g.L[5], {Kind: api.KAlt, L: []int{4, 3}}, g.L[4], {Kind: api.KOpt, L: []int{5}}, g.L[3],
	}
	b, e := bnf.Of(g)
	if got := tellAll(b); e != api.OK || got != "3 2 [-1 2 4] 0:1Z 1:2 1:Y 2:X 2:" {
		t.Errorf("%s, %v", got, e)
	}
}

// Promise 9.2: a node's symbols.
func TestSymbols(t *testing.T) {
	g := bound(t, "a: X (Y | Z?) b+ (a*)?; b: ;")
	for i, want := range []string{"X2145", "X", "2", "Y", "3", "Z", "14", "1", "5", "6", "0", ""} {
		l, e := bnf.Symbols(g, i)
		if e != api.OK || tell(l) != want {
			t.Errorf("node %d: %s, %v, want %s", i, tell(l), e, want)
		}
	}
	for _, i := range []int{-1, 12, math.MinInt, math.MaxInt} {
		if l, e := bnf.Symbols(g, i); len(l) != 0 || e != api.ErrNone {
			t.Errorf("node %d: %v, %v", i, l, e)
		}
	}
}

// Promise 9.2: errors of grammars.
func TestOfWrong(t *testing.T) {
	g := bound(t, "a: b; b: X;")
	lost := g
	lost.L = slices.Clone(g.L)
	lost.L[0].N = 0
	stops := g
	stops.Rules = slices.Clone(g.Rules)
	stops.Rules[1].Stop = []int{1}
	form := lost
	form.L[1].Label = "X"
	unbound := bound(t, "a: b; b: X;")
	unbound.L[0].Name = "c"
	for i, g := range []api.Grammar{{}, form, stops, unbound} {
		want := gram.May(g)
		if want == api.OK {
			want = api.ErrName
		}
		if b, e := bnf.Of(g); e != want || !reflect.DeepEqual(b, api.Bnf{}) {
			t.Errorf("%d: Of: %v, %v, want %v", i, b, e, want)
		}
		if l, e := bnf.Symbols(g, 99); e != want || len(l) != 0 {
			t.Errorf("%d: Symbols: %v, %v, want %v", i, l, e, want)
		}
	}
}

// Promise 9.2: as many nodes as there can be.
func TestMany(t *testing.T) {
	for _, rules := range []string{
		"a: " + strings.Repeat("X ", 399) + ";",
		"a: " + strings.Repeat("X? ", 199) + ";",
		"a: " + strings.Repeat("| ", 398) + ";",
	} {
		g := bound(t, rules)
		b, e := bnf.Of(g)
		if e != api.OK || bnf.May(b) != api.OK {
			t.Errorf("%.20q: %v, %v", rules, e, bnf.May(b))
		}
	}
}

// plain is three rules of two nonterminals.
func plain() api.Bnf {
	return api.Bnf{Toks: 2, Look: 1, Of: []int{-1, 7}, L: []api.Prod{
		{Left: 0, Right: []api.Sym{{Tok: true, N: 1}, {N: 1}}},
		{Left: 1, Right: []api.Sym{{Tok: true, N: 2}, {N: 0}}},
		{Left: 1},
	}}
}

// Promise 9.1: what may be, and what fails first.
func TestMay(t *testing.T) {
	full := api.Bnf{Toks: api.MaxToks, Look: api.MaxLook, Of: make([]int, 500), L: make([]api.Prod, 2000)}
	for i := range full.L {
		full.L[i].Left = i % 500
	}
	full.L[0].Right = slices.Repeat([]api.Sym{{Tok: true, N: 60}, {N: 499}}, 250)
	for i, b := range []api.Bnf{plain(), full, {Toks: 1, Look: 1, Of: []int{-99}, L: []api.Prod{{}}}} {
		if e := bnf.May(b); e != api.OK {
			t.Errorf("%d: %v", i, e)
		}
	}
	for i, x := range []struct {
		e api.Errno
		f func(b *api.Bnf)
	}{
		{api.ErrFull, func(b *api.Bnf) { b.Toks = 0 }},
		{api.ErrFull, func(b *api.Bnf) { b.Toks = api.MaxToks + 1 }},
		{api.ErrFull, func(b *api.Bnf) { b.Of = nil }},
		{api.ErrFull, func(b *api.Bnf) { b.Of = make([]int, 501) }},
		{api.ErrFull, func(b *api.Bnf) { b.L = nil }},
		{api.ErrFull, func(b *api.Bnf) { b.L = make([]api.Prod, 2001) }},
		{api.ErrFull, func(b *api.Bnf) { b.L[2].Right = make([]api.Sym, 501) }},
		{api.ErrFull, func(b *api.Bnf) { b.L[2].Right, b.Look, b.L[0].Left = make([]api.Sym, 501), 0, 9 }},
		{api.ErrLook, func(b *api.Bnf) { b.Look = 0 }},
		{api.ErrLook, func(b *api.Bnf) { b.Look, b.L[0].Left = api.MaxLook+1, -1 }},
		{api.ErrForm, func(b *api.Bnf) { b.L[2].Left = 2 }},
		{api.ErrForm, func(b *api.Bnf) { b.L[2].Left = -1 }},
		{api.ErrForm, func(b *api.Bnf) { b.L[1].Right[0].N = 0 }},
		{api.ErrForm, func(b *api.Bnf) { b.L[1].Right[0].N = 3 }},
		{api.ErrForm, func(b *api.Bnf) { b.L[1].Right[1].N = -1 }},
		{api.ErrForm, func(b *api.Bnf) { b.L[1].Right[1].N = 2 }},
		{api.ErrForm, func(b *api.Bnf) { b.L[1].Right[1].N = math.MaxInt }},
	} {
		b := plain()
		x.f(&b)
		if e := bnf.May(b); e != x.e {
			t.Errorf("%d: %v, want %v", i, e, x.e)
		}
		if bnf.Same(b, b) || len(bnf.Prods(b, 0)) != 0 {
			t.Errorf("%d: of what may not be something is told", i)
		}
	}
}

// Promise 9.1: Prods and Same.
func TestAsk(t *testing.T) {
	b := plain()
	b.L = append(b.L, api.Prod{Left: 0})
	for n, want := range map[int][]int{0: {0, 3}, 1: {1, 2}, 2: nil, -1: nil, math.MaxInt: nil} {
		if got := bnf.Prods(b, n); !slices.Equal(got, want) {
			t.Errorf("Prods %d: %v, want %v", n, got, want)
		}
	}
	for i, f := range []func(b *api.Bnf){
		func(b *api.Bnf) { b.Toks = 3 },
		func(b *api.Bnf) { b.Look = 2 },
		func(b *api.Bnf) { b.Of[1] = 8 },
		func(b *api.Bnf) { b.Of = append(b.Of, -1) },
		func(b *api.Bnf) { b.L = b.L[:2] },
		func(b *api.Bnf) { b.L[2].Left = 0 },
		func(b *api.Bnf) { b.L[0].Right[0].N = 2 },
		func(b *api.Bnf) { b.L[0].Right[0].Tok = false },
		func(b *api.Bnf) { b.L[2].Right = []api.Sym{{}} },
	} {
		b := plain()
		f(&b)
		if bnf.May(b) != api.OK || bnf.Same(plain(), b) || bnf.Same(b, plain()) {
			t.Errorf("%d: counts as the same", i)
		}
	}
	e := plain()
	e.L[2].Right = []api.Sym{}
	if !bnf.Same(e, plain()) {
		t.Errorf("an empty list is not as none")
	}
}
