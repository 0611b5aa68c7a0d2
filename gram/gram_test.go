package gram_test

import (
	"fmt"
	"math"
	"reflect"
	"slices"
	"strings"
	"testing"

	"gramarye/api"
	"gramarye/gram"
)

func tok(s string) api.Node               { return api.Node{Kind: api.KTok, Name: s} }
func ref(s string) api.Node               { return api.Node{Kind: api.KRef, Name: s} }
func of(kind int, l ...int) api.Node      { return api.Node{Kind: kind, L: l} }
func label(s string, n api.Node) api.Node { n.Label = s; return n }

// small is a: X | Y;
func small() api.Grammar {
	return api.Grammar{Name: "g", Look: 1, Toks: []string{"X", "Y"}, Rules: []api.Rule{{Name: "a"}}, L: []api.Node{of(api.KAlt, 1, 2), tok("X"), tok("Y")}}
}

// mixed has two rules whose nodes stand across each other: a: p=X? (q=b Y)*; b: p=(X | )+;
func mixed() api.Grammar {
	return api.Grammar{
		Name: "g", Look: 2, Toks: []string{"X", "Y"},
		Rules: []api.Rule{
			{Name: "a", Root: 1, Pos: 7, Sync: []string{"X", "X"}, Stop: []int{1, 1}},
			{Name: "b", Root: 0, Pos: 9},
		},
		L: []api.Node{
			0:  label("p", of(api.KPlus, 4)),
			1:  of(api.KSeq, 5, 2),
			2:  of(api.KStar, 3),
			3:  of(api.KSeq, 10, 8),
			4:  of(api.KAlt, 9, 6),
			5:  label("p", of(api.KOpt, 7)),
			6:  of(api.KSeq),
			7:  tok("X"),
			8:  tok("Y"),
			9:  tok("X"),
			10: label("q", ref("b")),
		},
	}
}

// nested is a rule of that many nodes, one below the other.
func nested(deep int) api.Grammar {
	g := small()
	g.L = nil
	for i := 1; i < deep; i++ {
		g.L = append(g.L, of(api.KOpt, i))
	}
	g.L = append(g.L, tok("X"))
	return g
}

// change makes something else of small.
func change(f func(g *api.Grammar)) api.Grammar {
	g := small()
	f(&g)
	return g
}

func names(kind string, n int) []string {
	var l []string
	for i := range n {
		l = append(l, fmt.Sprint(kind, i))
	}
	return l
}

// Promise 5.1: what may be.
func TestMay(t *testing.T) {
	full := small()
	full.Toks, full.Look, full.L = names("T", api.MaxToks), api.MaxLook, nil
	full.Rules = nil
	for i, s := range names("r", api.MaxRules) {
		full.Rules = append(full.Rules, api.Rule{Name: s, Root: i, Pos: api.MaxText, Sync: full.Toks, Stop: make([]int, api.MaxToks)})
		n := tok("NOWHERE")
		n.N, n.Pos, n.Label = math.MaxInt, api.MaxText, "l"
		full.L = append(full.L, n)
	}
	wide := of(api.KSeq)
	for i := api.MaxRules; i < api.MaxNodes; i++ {
		wide.L = append(wide.L, i)
		full.L = append(full.L, ref("nowhere"))
	}
	full.L[0] = wide
	for i, g := range []api.Grammar{small(), mixed(), nested(1), nested(api.MaxDeep), full} {
		if e := gram.May(g); e != api.OK {
			t.Errorf("grammar %d: %v", i, e)
		}
	}
}

// Promise 5.1: what fails, each kind of it, and at each limit.
func TestMayNot(t *testing.T) {
	for i, x := range []struct {
		e api.Errno
		f func(g *api.Grammar)
	}{
		{api.ErrFull, func(g *api.Grammar) { g.Toks = nil }},
		{api.ErrFull, func(g *api.Grammar) { g.Toks = names("T", api.MaxToks+1) }},
		{api.ErrFull, func(g *api.Grammar) { g.Rules = nil }},
		{api.ErrFull, func(g *api.Grammar) { g.Rules = make([]api.Rule, api.MaxRules+1) }},
		{api.ErrFull, func(g *api.Grammar) { g.L = nil }},
		{api.ErrFull, func(g *api.Grammar) { g.L = make([]api.Node, api.MaxNodes+1) }},
		{api.ErrLook, func(g *api.Grammar) { g.Look = 0 }},
		{api.ErrLook, func(g *api.Grammar) { g.Look = 5 }},
		{api.ErrLook, func(g *api.Grammar) { g.Look = math.MinInt }},
		{api.ErrName, func(g *api.Grammar) { g.Name = "" }},
		{api.ErrName, func(g *api.Grammar) { g.Name = "G" }},
		{api.ErrName, func(g *api.Grammar) { g.Name = "token" }},
		{api.ErrName, func(g *api.Grammar) { g.Toks[1] = "y" }},
		{api.ErrName, func(g *api.Grammar) { g.Rules[0].Name = "look" }},
		{api.ErrName, func(g *api.Grammar) { g.Rules[0].Name = strings.Repeat("a", 21) }},
		{api.ErrName, func(g *api.Grammar) { g.Rules[0].Sync = []string{"X", "x"} }},
		{api.ErrName, func(g *api.Grammar) { g.Rules[0].Sync = slices.Repeat([]string{"X"}, api.MaxToks+1) }},
		{api.ErrTwice, func(g *api.Grammar) { g.Toks[1] = "X" }},
		{api.ErrTwice, func(g *api.Grammar) { g.Rules = append(g.Rules, g.Rules[0]) }},
		{api.ErrForm, func(g *api.Grammar) { g.L[1].Kind = 0 }},
		{api.ErrForm, func(g *api.Grammar) { g.L[1].Kind = 8 }},
		{api.ErrForm, func(g *api.Grammar) { g.L[1].Kind = -1 }},
		{api.ErrForm, func(g *api.Grammar) { g.L[1].Name = "x" }},
		{api.ErrForm, func(g *api.Grammar) { g.L[1].Name = "" }},
		{api.ErrForm, func(g *api.Grammar) { g.L[1] = ref("X") }},
		{api.ErrForm, func(g *api.Grammar) { g.L[1] = ref("sync") }},
		{api.ErrForm, func(g *api.Grammar) { g.L[1].N = -1 }},
		{api.ErrForm, func(g *api.Grammar) { g.L[0].N = 1 }},
		{api.ErrForm, func(g *api.Grammar) { g.L[0].Name = "a" }},
		{api.ErrForm, func(g *api.Grammar) { g.L[1].Label = "X" }},
		{api.ErrForm, func(g *api.Grammar) { g.L[1].Label = "grammar" }},
		{api.ErrForm, func(g *api.Grammar) { g.L[1].Pos = -1 }},
		{api.ErrForm, func(g *api.Grammar) { g.L[1].Pos = api.MaxText + 1 }},
		{api.ErrForm, func(g *api.Grammar) { g.Rules[0].Pos = -1 }},
		{api.ErrForm, func(g *api.Grammar) { g.Rules[0].Pos = api.MaxText + 1 }},
		{api.ErrForm, func(g *api.Grammar) { g.Rules[0].Stop = make([]int, api.MaxToks+1) }},
		{api.ErrForm, func(g *api.Grammar) { g.Rules[0].Root = -1 }},
		{api.ErrForm, func(g *api.Grammar) { g.Rules[0].Root = 3 }},
		{api.ErrForm, func(g *api.Grammar) { g.Rules[0].Root = 1 }},
		{api.ErrForm, func(g *api.Grammar) { g.L[0].L = []int{1} }},
		{api.ErrForm, func(g *api.Grammar) { g.L[0].L = []int{1, 2, 3} }},
		{api.ErrForm, func(g *api.Grammar) { g.L[0].L = []int{1, 2, -1} }},
		{api.ErrForm, func(g *api.Grammar) { g.L[0].L = []int{1, 2, 0} }},
		{api.ErrForm, func(g *api.Grammar) { g.L[0].L = []int{1, 2, 2} }},
		{api.ErrForm, func(g *api.Grammar) { g.L[0].L = []int{1, 1} }},
		{api.ErrForm, func(g *api.Grammar) { g.L[0].Kind = api.KOpt }},
		{api.ErrForm, func(g *api.Grammar) { g.L[0].Kind = api.KStar }},
		{api.ErrForm, func(g *api.Grammar) { g.L[0].Kind = api.KPlus }},
		{api.ErrForm, func(g *api.Grammar) { g.L = append(g.L, tok("X")) }},
		{api.ErrForm, func(g *api.Grammar) { g.L[0].L = []int{1}; g.L = g.L[:2] }},
		{api.ErrForm, func(g *api.Grammar) { g.L[0] = of(api.KSeq, 1); g.L = g.L[:2] }},
		{api.ErrForm, func(g *api.Grammar) { g.L[1].L = []int{2}; g.L[0] = of(api.KStar, 1) }},
		{api.ErrForm, func(g *api.Grammar) { g.Rules = append(g.Rules, api.Rule{Name: "b", Root: 2}) }},
		{api.ErrForm, func(g *api.Grammar) { g.L = []api.Node{of(api.KAlt)} }},
		{api.ErrForm, func(g *api.Grammar) { g.L = []api.Node{of(api.KPlus)} }},
		{api.ErrForm, func(g *api.Grammar) { g.L = []api.Node{of(api.KOpt, 0)} }},
		{api.ErrForm, func(g *api.Grammar) { g.L = []api.Node{of(api.KOpt, 0), tok("X")}; g.Rules[0].Root = 1 }},
		{api.ErrDeep, func(g *api.Grammar) { *g = nested(api.MaxDeep + 1) }},
	} {
		g := change(x.f)
		if e := gram.May(g); e != x.e {
			t.Errorf("%d: %v, want %v", i, e, x.e)
		}
		n, e := gram.Norm(g)
		if e != x.e || !reflect.DeepEqual(n, api.Grammar{}) {
			t.Errorf("%d: Norm: %v, %v", i, n, e)
		}
		if gram.Same(g, g) || gram.Depth(g) != 0 || gram.Owner(g, 0) != -1 || len(gram.Labels(g)) != 0 || len(slices.Collect(gram.Walk(g))) != 0 {
			t.Errorf("%d: of what may not be something is told", i)
		}
	}
	if gram.May(change(func(g *api.Grammar) { g.L[0] = of(api.KSeq); g.L = g.L[:1] })) != api.OK {
		t.Errorf("an empty KSeq")
	}
}

// Promise 5.1: the first thing that fails is told.
func TestOrder(t *testing.T) {
	g := nested(api.MaxDeep + 1)
	for _, x := range []struct {
		e api.Errno
		f func()
	}{
		{api.ErrForm, func() { g.L[len(g.L)-1].N = -1 }},
		{api.ErrTwice, func() { g.Toks = []string{"X", "X"} }},
		{api.ErrName, func() { g.Name = "G" }},
		{api.ErrLook, func() { g.Look = 0 }},
		{api.ErrFull, func() { g.Toks = nil }},
	} {
		x.f()
		if e := gram.May(g); e != x.e {
			t.Errorf("%v, want %v", e, x.e)
		}
	}
}

// Promise 5.1: Depth, Owner, Labels.
func TestAsk(t *testing.T) {
	g := mixed()
	if gram.Depth(small()) != 2 || gram.Depth(g) != 4 || gram.Depth(nested(40)) != 40 || gram.Depth(nested(1)) != 1 {
		t.Errorf("Depth: %d, %d, %d", gram.Depth(small()), gram.Depth(g), gram.Depth(nested(40)))
	}
	for i, want := range []int{1, 0, 0, 0, 1, 0, 1, 0, 0, 1, 0} {
		if got := gram.Owner(g, i); got != want {
			t.Errorf("Owner of %d: %d, want %d", i, got, want)
		}
	}
	for _, i := range []int{-1, 11, math.MinInt, math.MaxInt} {
		if got := gram.Owner(g, i); got != -1 {
			t.Errorf("Owner of %d: %d", i, got)
		}
	}
	if got := gram.Labels(g); !slices.Equal(got, []string{"p", "q"}) {
		t.Errorf("Labels: %q", got)
	}
	g.L[7].Label, g.L[2].Label = "z", "y"
	if got := gram.Labels(g); !slices.Equal(got, []string{"p", "y", "z", "q"}) {
		t.Errorf("Labels: %q", got)
	}
	if got := gram.Labels(small()); len(got) != 0 {
		t.Errorf("Labels of none: %q", got)
	}
}

// Promises 5.2 and 5.3: in order.
func TestNorm(t *testing.T) {
	g := mixed()
	want := api.Grammar{
		Name: "g", Look: 2, Toks: []string{"X", "Y"},
		Rules: []api.Rule{
			{Name: "a", Root: 0, Pos: 7, Sync: []string{"X", "X"}, Stop: []int{1, 1}},
			{Name: "b", Root: 7, Pos: 9},
		},
		L: []api.Node{
			of(api.KSeq, 1, 3), label("p", of(api.KOpt, 2)), tok("X"), of(api.KStar, 4), of(api.KSeq, 5, 6), label("q", ref("b")), tok("Y"),
			label("p", of(api.KPlus, 8)), of(api.KAlt, 9, 10), tok("X"), of(api.KSeq),
		},
	}
	n, e := gram.Norm(g)
	if e != api.OK || !reflect.DeepEqual(n, want) {
		t.Errorf("Norm: %v, %v", n, e)
	}
	m, e := gram.Norm(n)
	if e != api.OK || !reflect.DeepEqual(m, n) {
		t.Errorf("in order it does not stay: %v, %v", m, e)
	}
	if !reflect.DeepEqual(g, mixed()) {
		t.Errorf("what was handed in has changed")
	}
	n.Toks[0], n.Rules[0].Sync[0], n.Rules[0].Stop[0], n.L[0].L[0] = "Z", "Z", 9, 9
	if !reflect.DeepEqual(g, mixed()) || !reflect.DeepEqual(m, want) {
		t.Errorf("what was told shares something")
	}
}

// Promises 5.2 and 5.3: Walk tells each node once, in order.
func TestWalk(t *testing.T) {
	g := mixed()
	w := gram.Walk(g)
	want := []int{1, 5, 7, 2, 3, 10, 8, 0, 4, 9, 6}
	g.L[1].L[0], g.Rules[0].Root = 2, 0
	for range 2 {
		if got := slices.Collect(w); !slices.Equal(got, want) {
			t.Errorf("Walk: %v", got)
		}
	}
	for i := range w {
		if i == 7 {
			break
		}
	}
	if got := slices.Collect(gram.Walk(small())); !slices.Equal(got, []int{0, 1, 2}) {
		t.Errorf("Walk: %v", got)
	}
}

// Promise 5.2: what is the same.
func TestSame(t *testing.T) {
	n, _ := gram.Norm(mixed())
	for i := range n.L {
		n.L[i].Pos = i
	}
	n.Rules[0].Pos, n.Rules[1].Pos = 0, 100
	n.Rules[1].Sync, n.Rules[1].Stop = []string{}, []int{}
	if !gram.Same(mixed(), n) || !gram.Same(n, mixed()) || gram.Same(n, small()) {
		t.Errorf("the same in another order is not the same")
	}
	for i, f := range []func(g *api.Grammar){
		func(g *api.Grammar) { g.Name = "h" },
		func(g *api.Grammar) { g.Look = 1 },
		func(g *api.Grammar) { g.Toks = []string{"Y", "X"} },
		func(g *api.Grammar) { g.Toks = append(g.Toks, "Z") },
		func(g *api.Grammar) { g.Rules[0].Name = "c" },
		func(g *api.Grammar) { g.Rules[0].Sync = nil },
		func(g *api.Grammar) { g.Rules[0].Stop = []int{1} },
		func(g *api.Grammar) { g.Rules[1].Stop = []int{2} },
		func(g *api.Grammar) { g.Rules[0].Root, g.Rules[1].Root = 0, 1 },
		func(g *api.Grammar) { g.Rules[0], g.Rules[1] = g.Rules[1], g.Rules[0] },
		func(g *api.Grammar) { g.L[7].Name = "Y" },
		func(g *api.Grammar) { g.L[7].N = 1 },
		func(g *api.Grammar) { g.L[7].Label = "p" },
		func(g *api.Grammar) { g.L[2].Kind = api.KPlus },
		func(g *api.Grammar) { g.L[4].L = []int{6, 9} },
		func(g *api.Grammar) { g.L[10].Name = "a" },
	} {
		g := mixed()
		f(&g)
		if gram.May(g) != api.OK || gram.Same(g, mixed()) || gram.Same(mixed(), g) {
			t.Errorf("%d: %v, or it counts as the same", i, gram.May(g))
		}
	}
}
