package tree_test

import (
	"math"
	"reflect"
	"slices"
	"strings"
	"testing"

	"gramarye/api"
	"gramarye/tree"
)

func node(kind, n, at, to int, l ...int) api.Tnode {
	return api.Tnode{Kind: kind, N: n, At: at, To: to, L: l}
}

func labelled(s string, x api.Tnode) api.Tnode {
	x.Label = s
	return x
}

func of(l ...api.Tnode) api.Tree { return api.Tree{L: l} }

var rules, toks = []string{"a", "b"}, []string{"X", "Y", "Z"}

// full has a node of each kind, nested: (a l:X (b !Y <1..3>) m:(a) ?7 n:!Z (b Y) <4..6>).
func full() api.Tree {
	return of(
		node(api.TRule, 0, 0, 6, 1, 2, 5, 6, 7, 8, 10),
		labelled("l", node(api.TLeaf, 1, 0, 1)),
		node(api.TRule, 1, 1, 3, 3, 4), node(api.TLost, 2, 1, 1), node(api.TSkip, 0, 1, 3),
		labelled("m", node(api.TRule, 0, 3, 3)),
		node(api.TGap, 7, 3, 3),
		labelled("n", node(api.TLost, 3, 3, 3)),
		node(api.TRule, 1, 3, 4, 9), node(api.TLeaf, 2, 3, 4),
		node(api.TSkip, 0, 4, 6),
	)
}

// Promises 22.1 to 22.3, by a table.
func TestTable(t *testing.T) {
	for _, x := range []struct {
		t     api.Tree
		text  string
		word  []int
		clean bool
	}{
		{full(), "(a l:X (b !Y <1..3>) m:(a) ?7 n:!Z (b Y) <4..6>)", []int{1, 2}, false},
		{of(node(api.TRule, 0, 0, 0)), "(a)", nil, true},
		{of(node(api.TRule, 2, 0, 0)), "(?)", nil, true},
		{of(node(api.TRule, 0, 0, 0, 1), node(api.TLost, 1, 0, 0)), "(a !X)", nil, false},
		{of(node(api.TRule, 1, 0, 2, 1, 2), node(api.TLeaf, 3, 0, 1), node(api.TLeaf, 4, 1, 2)), "(b Z ?)", []int{3, 4}, true},
		{of(node(api.TRule, 1, 0, 0, 1, 2), node(api.TRule, 0, 0, 0), labelled("x", node(api.TGap, 0, 0, 0))), "(b (a) x:?0)", nil, false},
		{of(labelled("l", node(api.TRule, 0, 0, 0, 1)), node(api.TLost, math.MaxInt, 0, 0)), "l:(a !?)", nil, false},
		{of(node(api.TRule, math.MaxInt, 0, 12, 1), node(api.TSkip, 0, 0, 12)), "(? <0..12>)", nil, false},
		{of(node(api.TRule, 0, 0, 0, 1), node(api.TGap, math.MaxInt, 0, 0)), "(a ?9223372036854775807)", nil, false},
		{of(node(api.TRule, 0, 0, 1, 1), node(api.TRule, 0, 0, 1, 2), node(api.TRule, 0, 0, 1, 3), node(api.TLeaf, 1, 0, 1)), "(a (a (a X)))", []int{1}, true},
	} {
		if e := tree.May(x.t); e != api.OK {
			t.Errorf("%s: %v", x.text, e)
		}
		if got := tree.Text(x.t, rules, toks); got != x.text {
			t.Errorf("%s, want %s", got, x.text)
		}
		if got := tree.Word(x.t); !slices.Equal(got, x.word) || tree.Clean(x.t) != x.clean || !tree.Same(x.t, x.t) {
			t.Errorf("%s: word %v, clean %v", x.text, got, tree.Clean(x.t))
		}
		var all []int
		for i := range x.t.L[0].To {
			all = append(all, i)
		}
		if got := tree.Places(x.t); !slices.Equal(got, all) {
			t.Errorf("%s: places %v", x.text, got)
		}
	}
	if got := tree.Text(full(), nil, nil); got != "(? l:? (? !? <1..3>) m:(?) ?7 n:!? (? ?) <4..6>)" {
		t.Errorf("without names: %s", got)
	}
}

// Promise 22.1: what may not be, each kind of it; and of that nothing is told.
func TestMayNot(t *testing.T) {
	for i, f := range []func(t *api.Tree){
		func(t *api.Tree) { t.L = nil },
		func(t *api.Tree) { t.L = t.L[1:] },
		func(t *api.Tree) { t.L = append(t.L, node(api.TRule, 0, 6, 6)) },
		func(t *api.Tree) { t.L[0].At = -1 },
		func(t *api.Tree) { t.L[0].Kind = api.TLeaf },
		func(t *api.Tree) { t.L[0].N = -1 },
		func(t *api.Tree) { t.L[0].To = 7 },
		func(t *api.Tree) { t.L[0].To = 5 },
		func(t *api.Tree) { t.L[0].Label = "X" },
		func(t *api.Tree) { t.L[0].L = t.L[0].L[:6] },
		func(t *api.Tree) { t.L[0].L[1] = 99 },
		func(t *api.Tree) { t.L[0].L[1] = -1 },
		func(t *api.Tree) { t.L[0].L[2], t.L[0].L[3] = 6, 5 },
		func(t *api.Tree) { t.L[0].L[2] = 6 },
		func(t *api.Tree) { t.L[0].L[2] = 0 },
		func(t *api.Tree) { t.L[0].L = nil },
		func(t *api.Tree) {
			t.L[0].L, t.L[5].L = []int{1, 2, 5, 8, 10}, []int{6, 7}
			t.L[6].At, t.L[6].To = 2, 2
		},
		func(t *api.Tree) { t.L[1].Kind = 0 },
		func(t *api.Tree) { t.L[1].Kind = 6 },
		func(t *api.Tree) { t.L[1].Kind = -1 },
		func(t *api.Tree) { t.L[1].N = 0 },
		func(t *api.Tree) { t.L[1].To = 2 },
		func(t *api.Tree) { t.L[1].At = 1 },
		func(t *api.Tree) { t.L[1].L = []int{2} },
		func(t *api.Tree) { t.L[1].Label = "token" },
		func(t *api.Tree) { t.L[2].L = []int{3} },
		func(t *api.Tree) { t.L[2].L = []int{4, 3} },
		func(t *api.Tree) { t.L[2].L = []int{3, 4, 4} },
		func(t *api.Tree) { t.L[2].L = []int{2, 3, 4} },
		func(t *api.Tree) { t.L[3].N = 0 },
		func(t *api.Tree) { t.L[3].To = 2 },
		func(t *api.Tree) { t.L[4].N = 1 },
		func(t *api.Tree) { t.L[4].Label = "l" },
		func(t *api.Tree) { t.L[4].To = 1 },
		func(t *api.Tree) { t.L[4].To = 2 },
		func(t *api.Tree) { t.L[4].L = []int{5} },
		func(t *api.Tree) { t.L[5].To = 4 },
		func(t *api.Tree) { t.L[5].At = 4 },
		func(t *api.Tree) { t.L[5].L = []int{5} },
		func(t *api.Tree) { t.L[6].N = -1 },
		func(t *api.Tree) { t.L[6].To = 4 },
		func(t *api.Tree) { t.L[6].Kind = api.TSkip },
		func(t *api.Tree) { t.L[7].At, t.L[7].To = -1, -1 },
		func(t *api.Tree) { t.L[0].L[6] = 11 },
		func(t *api.Tree) { *t = of(node(api.TRule, 0, 0, 0, 1), node(api.TSkip, 0, 0, 0)) },
		func(t *api.Tree) {
			*t = of(node(api.TRule, 0, 0, 1, 1), node(api.TLeaf, 1, 0, 1, 2), node(api.TLost, 1, 1, 1))
		},
		func(t *api.Tree) { *t = of(node(api.TRule, 0, 1, 1)) },
		func(t *api.Tree) { *t = of(node(api.TRule, 0, 0, 1)) },
		func(t *api.Tree) { *t = of(node(api.TRule, 0, 1, 0)) },
		func(t *api.Tree) {
			*t = of(node(api.TRule, 0, 0, math.MinInt, 1, 2), node(api.TSkip, 0, 0, math.MaxInt), node(api.TLeaf, 1, math.MaxInt, math.MinInt))
		},
	} {
		x := full()
		f(&x)
		if e := tree.May(x); e != api.ErrForm {
			t.Errorf("%d: %v", i, e)
		}
		if len(tree.Word(x))+len(tree.Places(x)) > 0 || tree.Clean(x) || tree.Same(x, x) || tree.Text(x, rules, toks) != "" {
			t.Errorf("%d: something is told of it", i)
		}
	}
}

// Promise 22.1: as many nodes, and as deep, as can be.
func TestMany(t *testing.T) {
	wide := of(node(api.TRule, 0, 0, 99999))
	deep := of(node(api.TRule, 0, 0, 0))
	for i := 1; i < 100000; i++ {
		wide.L[0].L = append(wide.L[0].L, i)
		wide.L = append(wide.L, node(api.TLeaf, 1, i-1, i))
		deep.L[i-1].L = []int{i}
		deep.L = append(deep.L, node(api.TRule, 0, 0, 0))
	}
	if tree.May(wide) != api.OK || tree.May(deep) != api.OK || len(tree.Word(wide)) != 99999 || !tree.Clean(deep) {
		t.Errorf("100000 nodes may not be")
	}
	if s := tree.Text(deep, rules, toks); s != strings.Repeat("(a ", 99999)+"(a"+strings.Repeat(")", 100000) {
		t.Errorf("a deep one: %.20s", s)
	}
	wide.L[0].L, wide.L[0].To = append(wide.L[0].L, 100000), 100000
	wide.L = append(wide.L, node(api.TLeaf, 1, 99999, 100000))
	if tree.May(wide) != api.ErrForm {
		t.Errorf("one node more may be")
	}
}

// Promise 22.1: what is the same.
func TestSame(t *testing.T) {
	for i, f := range []func(t *api.Tree){
		func(t *api.Tree) { t.L[1].N = 2 },
		func(t *api.Tree) { t.L[1].Label = "" },
		func(t *api.Tree) { t.L[5].Label = "l" },
		func(t *api.Tree) { t.L[2].N = 0 },
		func(t *api.Tree) { t.L[6].Kind = api.TLost },
		func(t *api.Tree) { t.L[10].To, t.L[0].To = 7, 7 },
		func(t *api.Tree) { t.L[0].L, t.L[5].L = []int{1, 2, 5, 7, 8, 10}, []int{6} },
		func(t *api.Tree) { *t = of(node(api.TRule, 0, 0, 0)) },
	} {
		x := full()
		f(&x)
		if tree.May(x) != api.OK || tree.Same(x, full()) || tree.Same(full(), x) {
			t.Errorf("%d: %v, or counts as the same", i, tree.May(x))
		}
	}
	x := full()
	x.L[1].L = []int{}
	if !tree.Same(x, full()) {
		t.Errorf("an empty list is not as none")
	}
	y := full()
	tree.Text(y, rules, toks)
	tree.Places(y)
	if !reflect.DeepEqual(y, full()) {
		t.Errorf("changed")
	}
}
