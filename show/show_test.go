package show_test

import (
	"math"
	"strings"
	"testing"

	"gramarye/api"
	"gramarye/gram"
	"gramarye/read"
	"gramarye/show"
)

func node(kind int, name, label string, l ...int) api.Node {
	return api.Node{Kind: kind, Name: name, Label: label, L: l}
}

// of is a grammar of one rule with these nodes.
func of(l ...api.Node) api.Grammar {
	return api.Grammar{Name: "g", Look: 1, Toks: []string{"X"}, Rules: []api.Rule{{Name: "a"}}, L: l}
}

// Promise 7.1: a whole text.
func TestPrint(t *testing.T) {
	g := api.Grammar{
		Name: "gr", Look: 3, Toks: []string{"X", "Y_2", "Z"},
		Rules: []api.Rule{{Name: "a", Sync: []string{"X", "Z", "X"}, Root: 1, Pos: 5, Stop: []int{3}}, {Name: "b", Root: 0, Sync: []string{"NO"}}, {Name: "c", Root: 4}},
		L:     []api.Node{node(api.KTok, "X", "l"), node(api.KAlt, "", "", 3, 2), node(api.KSeq, "", ""), node(api.KRef, "b", ""), node(api.KSeq, "", "")},
	}
	g.L[0].N, g.L[0].Pos = 7, 9
	s, e := show.Print(g)
	want := "grammar gr;\nlook 3;\ntoken X, Y_2, Z;\na sync (X, Z, X): b | ;\nb sync (NO): l=X;\nc: ;\n"
	if s != want || e != api.OK {
		t.Errorf("%q, %v, want %q", s, e, want)
	}
	for i, want := range []string{"a sync (X, Z, X): b | ;", "b sync (NO): l=X;", "c: ;"} {
		if s, e := show.Rule(g, i); s != want || e != api.OK {
			t.Errorf("rule %d: %q, %v, want %q", i, s, e, want)
		}
	}
	for i, want := range []string{"l=X", "(b | )", "()", "b", "()"} {
		if s, e := show.Item(g, i); s != want || e != api.OK {
			t.Errorf("item %d: %q, %v, want %q", i, s, e, want)
		}
	}
}

// Promises 7.1 and 7.3: what stands as it stands; and as an item, 7.2.
func TestStands(t *testing.T) {
	for _, x := range []struct{ alts, item string }{
		{"l=(X Y)? | ", "(l=(X Y)? | )"},
		{"X", "X"},
		{"a", "a"},
		{"l=a", "l=a"},
		{"", "()"},
		{"X Y", "(X Y)"},
		{"X | Y", "(X | Y)"},
		{" | ", "( | )"},
		{"l=(X | Y)", "l=(X | Y)"},
		{"l=(X Y)", "l=(X Y)"},
		{"l=()", "l=()"},
		{"l=(X | Y) | a", "(l=(X | Y) | a)"},
		{"X (Y | a) (Y a) ()", "(X (Y | a) (Y a) ())"},
		{"(X | Y) | X", "((X | Y) | X)"},
		{"X (Y X)", "(X (Y X))"},
		{"X?", "X?"},
		{"l=X*", "l=X*"},
		{"(l=X)+", "(l=X)+"},
		{"m=(l=a)+", "m=(l=a)+"},
		{"(X Y)*", "(X Y)*"},
		{"()*", "()*"},
		{"(X | )*", "(X | )*"},
		{"(X?)*", "(X?)*"},
		{"((X+)*)?", "((X+)*)?"},
		{"(l=X?)*", "(l=X?)*"},
		{"(l=(X Y))*", "(l=(X Y))*"},
		{"(l=(X | Y))+", "(l=(X | Y))+"},
		{"((X | Y) | a)?", "((X | Y) | a)?"},
		{"(X (Y X))?", "(X (Y X))?"},
		{"X | Y a? | l=(m=X n=Y) o=()", "(X | Y a? | l=(m=X n=Y) o=())"},
	} {
		g, _, e := read.Alts(x.alts)
		if e != api.OK {
			t.Fatalf("%q is not read: %v", x.alts, e)
		}
		if s, e := show.Rule(g, 0); s != "a: "+x.alts+";" || e != api.OK {
			t.Errorf("%q is told as %q, %v", x.alts, s, e)
		}
		if s, e := show.Item(g, 0); s != x.item || e != api.OK {
			t.Errorf("%q as an item: %q, %v, want %q", x.alts, s, e, x.item)
		}
	}
}

// Promises 7.1 and 7.2: errors.
func TestWrong(t *testing.T) {
	g := of(node(api.KTok, "X", ""))
	for _, i := range []int{-1, 1, math.MinInt, math.MaxInt} {
		if s, e := show.Rule(g, i); s != "" || e != api.ErrNone {
			t.Errorf("Rule %d: %q, %v", i, s, e)
		}
		if s, e := show.Item(g, i); s != "" || e != api.ErrNone {
			t.Errorf("Item %d: %q, %v", i, s, e)
		}
	}
	for _, bad := range []api.Grammar{{}, of(), of(node(api.KTok, "x", "")), of(node(api.KOpt, "", "", 0)), {Name: "g", Look: 9, Toks: g.Toks, Rules: g.Rules, L: g.L}} {
		want := gram.May(bad)
		if s, e := show.Print(bad); s != "" || e != want || e == api.OK {
			t.Errorf("Print: %q, %v, want %v", s, e, want)
		}
		if s, e := show.Rule(bad, 7); s != "" || e != want {
			t.Errorf("Rule: %q, %v, want %v", s, e, want)
		}
		if s, e := show.Item(bad, 7); s != "" || e != want {
			t.Errorf("Item: %q, %v, want %v", s, e, want)
		}
	}
}

// plain is g without what a text does not tell.
func plain(g api.Grammar) api.Grammar {
	g, _ = gram.Norm(g)
	for i := range g.L {
		g.L[i].N = 0
	}
	for i := range g.Rules {
		g.Rules[i].Stop = nil
	}
	return g
}

// Promise 7.3: what is printed is read as the same, of all small trees.
func TestBack(t *testing.T) {
	for _, l := range trees(3) {
		for mask := 0; mask < 1<<len(l); mask += 1 + len(l)*len(l)/20 {
			nodes := []api.Node{}
			for i, n := range l {
				if mask>>i&1 == 1 {
					n.Label = "l"
				}
				n.N = 0
				nodes = append(nodes, n)
			}
			g := of(nodes...)
			g.Rules[0].Stop = []int{1}
			s, e := show.Print(g)
			if e != api.OK {
				t.Fatalf("%v: %v", l, e)
			}
			back, at, e := read.Parse(s)
			if e != api.OK || !gram.Same(back, plain(g)) {
				t.Fatalf("%q: %d, %v, %v, want %v", s, at, e, back.L, g.L)
			}
			if again, _ := show.Print(back); again != s {
				t.Fatalf("%q is printed again as %q", s, again)
			}
			lines := strings.Split(s, "\n")
			if r, _ := show.Rule(g, 0); r != lines[3] || len(lines) != 5 {
				t.Fatalf("%q: rule %q", s, r)
			}
		}
	}
}

// trees tells all trees of some shapes, at most so deep.
func trees(deep int) [][]api.Node {
	l := [][]api.Node{{node(api.KTok, "X", "")}, {node(api.KRef, "a", "")}, {node(api.KSeq, "", "")}}
	if deep == 1 {
		return l
	}
	below := trees(deep - 1)
	for _, t := range below {
		for _, kind := range []int{api.KOpt, api.KStar, api.KPlus} {
			l = append(l, over(kind, t))
		}
		for _, kind := range []int{api.KSeq, api.KAlt} {
			l = append(l, over(kind, t, below[0]), over(kind, below[2], t), over(kind, t, t, t))
		}
	}
	return l
}

// over is a node with these trees below it.
func over(kind int, l ...[]api.Node) []api.Node {
	r := []api.Node{node(kind, "", "")}
	for _, t := range l {
		at := len(r)
		r[0].L = append(r[0].L, at)
		for _, n := range t {
			var kids []int
			for _, k := range n.L {
				kids = append(kids, k+at)
			}
			n.L = kids
			r = append(r, n)
		}
	}
	return r
}
