package bind_test

import (
	"math"
	"reflect"
	"slices"
	"testing"

	"gramarye/api"
	"gramarye/bind"
	"gramarye/gram"
	"gramarye/read"
	"gramarye/show"
)

// parse reads a grammar of the tokens X, Y, Z.
func parse(t *testing.T, rules string) api.Grammar {
	t.Helper()
	g, at, e := read.Parse("grammar g; look 1; token X, Y, Z; " + rules)
	if e != api.OK {
		t.Fatalf("%q: %d, %v", rules, at, e)
	}
	return g
}

// Promises 8.1 and 8.3: what is bound.
func TestBind(t *testing.T) {
	g := parse(t, "a sync (Y, X, Y): X b | l=(Z a)*; b: c; c sync (Z): Y X;")
	g.L[3].N, g.Rules[1].Stop, g.Rules[2].Stop = 77, []int{5}, []int{6}
	before := parse(t, "a sync (Y, X, Y): X b | l=(Z a)*; b: c; c sync (Z): Y X;")
	before.L[3].N, before.Rules[1].Stop, before.Rules[2].Stop = 77, []int{5}, []int{6}
	b, at, e := bind.Bind(g)
	if e != api.OK || at != 0 {
		t.Fatalf("%d, %v", at, e)
	}
	want := parse(t, "a sync (Y, X, Y): X b | l=(Z a)*; b: c; c sync (Z): Y X;")
	want.Rules[0].Stop, want.Rules[2].Stop = []int{2, 1, 2}, []int{3}
	for i, x := range want.L {
		want.L[i].N = map[string]int{"X": 1, "Y": 2, "Z": 3, "a": 0, "b": 1, "c": 2}[x.Name]
	}
	if !reflect.DeepEqual(b, want) {
		t.Errorf("%v, want %v", b, want)
	}
	if !reflect.DeepEqual(g, before) {
		t.Errorf("what was handed in has changed: %v", g)
	}
	again, at, e := bind.Bind(b)
	if e != api.OK || at != 0 || !reflect.DeepEqual(again, b) || !bind.Bound(b) || bind.Bound(g) {
		t.Errorf("bound again: %v, %d, %v", again, at, e)
	}
	s, _ := show.Print(g)
	if r, _ := show.Print(b); r != s {
		t.Errorf("printed as %q, was %q", r, s)
	}
	again.Toks[0], again.Rules[0].Sync[0], again.Rules[0].Stop[0], again.L[0].L[0] = "", "", 0, 0
	if !reflect.DeepEqual(b, want) {
		t.Errorf("what was told shares something")
	}
}

// Promise 8.1: nodes stay as they stood.
func TestStay(t *testing.T) {
	g := parse(t, "a: X | Y;")
	g.L = []api.Node{g.L[0], g.L[2], g.L[1]}
	g.L[0].L = []int{2, 1}
	b, _, e := bind.Bind(g)
	if e != api.OK || b.L[1].Name != "Y" || b.L[1].N != 2 || b.L[2].N != 1 || !slices.Equal(b.L[0].L, []int{2, 1}) {
		t.Errorf("%v, %v", b.L, e)
	}
}

// Promise 8.1: names that are not found, in order.
func TestLost(t *testing.T) {
	for _, x := range []struct {
		rules string
		want  []int
	}{
		{"a: X;", nil},
		{"a: a b;", []int{39}},
		{"a: W;", []int{37}},
		{"a: b c* | l=d;", []int{37, 39, 46}},
		{"a: b; c sync (X, V, W): a X; d sync (W): e;", []int{40, 63, 37, 75}},
		{"a sync (V): X;", []int{34}},
		{"a sync (X, Y): Z;", nil},
	} {
		g := parse(t, x.rules)
		if got := bind.Lost(g); !slices.Equal(got, x.want) {
			t.Errorf("%q: %v, want %v", x.rules, got, x.want)
		}
		b, at, e := bind.Bind(g)
		if len(x.want) == 0 {
			if e != api.OK || !bind.Bound(b) {
				t.Errorf("%q: %v", x.rules, e)
			}
		} else if e != api.ErrName || at != x.want[0] || !reflect.DeepEqual(b, api.Grammar{}) || bind.Bound(g) {
			t.Errorf("%q: %v, %d, %v", x.rules, b, at, e)
		}
	}
	g := parse(t, "a: b c;")
	g.L[1], g.L[2] = g.L[2], g.L[1]
	if got := bind.Lost(g); !slices.Equal(got, []int{39, 37}) {
		t.Errorf("nodes in another order: %v", got)
	}
}

// Promises 8.1 and 8.2: a grammar that may not be.
func TestMayNot(t *testing.T) {
	g := parse(t, "a sync (W): b;")
	g.Look = 0
	h := parse(t, "a: X;")
	h.L[0].Label = "X"
	h.L[0].N = 1
	for _, g := range []api.Grammar{{}, g, h} {
		b, at, e := bind.Bind(g)
		if e != gram.May(g) || at != 0 || !reflect.DeepEqual(b, api.Grammar{}) || len(bind.Lost(g)) != 0 || bind.Bound(g) {
			t.Errorf("%v, %d, %v", b, at, e)
		}
	}
}

// Promise 8.2: what is bound, each number alone.
func TestBound(t *testing.T) {
	b, _, _ := bind.Bind(parse(t, "a sync (X): Y b; b: Z;"))
	for i, f := range []func(g *api.Grammar){
		func(g *api.Grammar) { g.L[1].N = 1 },
		func(g *api.Grammar) { g.L[2].N = 0 },
		func(g *api.Grammar) { g.L[3].N = 0 },
		func(g *api.Grammar) { g.Rules[0].Stop = nil },
		func(g *api.Grammar) { g.Rules[0].Stop = []int{2} },
		func(g *api.Grammar) { g.Rules[0].Stop = []int{1, 1} },
		func(g *api.Grammar) { g.Rules[1].Stop = []int{0} },
		func(g *api.Grammar) { g.Rules[0].Sync = nil },
		func(g *api.Grammar) { g.L[3].Name = "NO" },
	} {
		g, _, _ := bind.Bind(b)
		if !bind.Bound(g) {
			t.Fatalf("not bound")
		}
		f(&g)
		if bind.Bound(g) {
			t.Errorf("%d: bound", i)
		}
	}
	g, _, _ := bind.Bind(b)
	g.Rules[1].Stop, g.Rules[1].Sync, g.L[0].Pos = []int{}, []string{}, 9
	if !bind.Bound(g) {
		t.Errorf("an empty list is not as none")
	}
}

// Promise 8.2: Token and Rule, whatever the grammar is.
func TestFind(t *testing.T) {
	g := api.Grammar{Toks: []string{"X", "", "Y", "X", "a"}, Rules: []api.Rule{{Name: "b"}, {Name: "a"}, {Name: "b"}, {Name: ""}}, Look: math.MinInt}
	for s, want := range map[string][2]int{"X": {1, -1}, "": {2, 3}, "Y": {3, -1}, "a": {5, 1}, "b": {0, 0}, "c": {0, -1}} {
		if bind.Token(g, s) != want[0] || bind.Rule(g, s) != want[1] {
			t.Errorf("%q: %d, %d, want %v", s, bind.Token(g, s), bind.Rule(g, s), want)
		}
	}
	if bind.Token(api.Grammar{}, "") != 0 || bind.Rule(api.Grammar{}, "") != -1 {
		t.Errorf("of no grammar something is found")
	}
}
