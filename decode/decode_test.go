package decode_test

import (
	"math"
	"reflect"
	"slices"
	"strings"
	"testing"

	"gramarye/api"
	"gramarye/bind"
	"gramarye/decode"
	"gramarye/emit"
	"gramarye/machine"
	"gramarye/read"
	"gramarye/tree"
	"gramarye/walk"
)

func num(n int64) api.Val { return api.Val{Kind: api.VInt, N: n} }
func ref(n int64) api.Val { return api.Val{Kind: api.VRef, N: n} }

var none, odd = api.Val{Kind: api.VNil}, api.Val{Kind: api.VBool, N: 7}

// node is an object of a tree.
func node(kind, n, at, to, label int64, first, next api.Val) api.Object {
	return api.Object{Type: 0, L: []api.Val{num(kind), num(n), num(at), num(to), num(label), first, odd, next}}
}

func wrong(at, kind, n int64, next api.Val) api.Object {
	return api.Object{Type: 1, L: []api.Val{num(at), num(kind), num(n), next}}
}

// made is an outcome with all that there may be: (a l:X (b) <1..3> !Y).
func made() api.Outcome {
	return api.Outcome{
		Kind: api.OutDone, V: ref(3), Steps: 9,
		L: []api.Object{
			0: node(2, 1, 0, 1, 1, none, ref(4)),
			1: wrong(1, 1, 2, ref(5)),
			2: {Type: 0, L: []api.Val{odd, odd, odd, odd, odd, ref(6), odd, ref(2)}},
			3: {Type: 2, L: []api.Val{num(3), ref(2), ref(1), odd}},
			4: node(1, 1, 1, 1, 0, none, ref(8)),
			5: wrong(3, 3, 0, none),
			6: node(1, 0, 0, 3, 0, ref(0), none),
			7: {Type: 5, L: []api.Val{odd}},
			8: node(3, 0, 1, 3, 0, none, ref(9)),
			9: node(4, 2, 3, 3, 2, none, none),
		},
	}
}

var labels = []string{"l", "", "m"}

// Promise 37.1: a tree, and what was wrong.
func TestTree(t *testing.T) {
	got, diags, e := decode.Tree(made(), labels)
	if e != api.OK || tree.Text(got, []string{"a", "b"}, []string{"X", "Y"}) != "(a l:X (b) <1..3> !Y)" || !slices.Equal(diags, []api.Diag{{At: 1, Kind: 1, N: 2}, {At: 3, Kind: 3}}) {
		t.Errorf("%v, %v, %v", got, diags, e)
	}
	for i, f := range []func(o *api.Outcome){
		func(o *api.Outcome) { o.Steps = -1 },
		func(o *api.Outcome) { o.L[3].L[3] = ref(99) },
		func(o *api.Outcome) { o.L[7] = api.Object{Type: 0} },
		func(o *api.Outcome) { o.L[9].L[4] = num(0) },
		func(o *api.Outcome) { o.L[1].L[1], o.L[1].L[0] = num(-5), num(math.MaxInt64) },
		func(o *api.Outcome) { o.L[3].L[0] = num(-9) },
	} {
		o := made()
		f(&o)
		if again, _, e := decode.Tree(o, labels); e != api.OK || !tree.Same(again, got) {
			t.Errorf("%d: %v, %v", i, again, e)
		}
	}
	small := api.Outcome{Kind: api.OutDone, V: ref(0), L: []api.Object{{Type: 2, L: []api.Val{num(0), ref(1), none, none}}, {Type: 0, L: []api.Val{none, none, none, none, none, ref(2), none, none}}, node(1, 0, 0, 0, 0, none, none)}}
	if got, diags, e := decode.Tree(small, nil); e != api.OK || len(got.L) != 1 || len(diags) != 0 {
		t.Errorf("%v, %v, %v", got, diags, e)
	}
	if !reflect.DeepEqual(labels, []string{"l", "", "m"}) {
		t.Errorf("changed")
	}
}

// Promise 37.1: the first object may be any of them.
func TestFirst(t *testing.T) {
	top := func(first int64) api.Object {
		return api.Object{Type: 0, L: []api.Val{none, none, none, none, none, ref(first), none, none}}
	}
	state := func(top, first api.Val) api.Object {
		return api.Object{Type: 2, L: []api.Val{num(0), top, first, none}}
	}
	root := node(1, 0, 0, 0, 0, none, none)
	for i, x := range []struct {
		v    api.Val
		l    []api.Object
		e    api.Errno
		some int
	}{
		{ref(1), []api.Object{root, state(ref(2), none), top(0)}, api.OK, 0},
		{ref(1), []api.Object{top(2), state(ref(0), none), root}, api.OK, 0},
		{ref(1), []api.Object{wrong(0, 1, 1, none), state(ref(2), ref(0)), top(3), root}, api.OK, 1},
		{ref(1), []api.Object{wrong(0, 1, 1, none), state(ref(2), ref(4)), top(3), root, wrong(0, 1, 1, ref(0))}, api.OK, 2},
		{ref(1), []api.Object{root, state(ref(2), none), top(3), node(1, 0, 0, 0, 0, none, ref(0))}, api.ErrForm, 0},
		{ref(1), []api.Object{root, state(ref(2), none), top(3), node(1, 0, 0, 0, 0, ref(0), none)}, api.OK, 0},
	} {
		got, diags, e := decode.Tree(api.Outcome{Kind: api.OutDone, V: x.v, L: x.l}, nil)
		if e != x.e || len(diags) != x.some || (e == api.OK) != (len(got.L) > 0) {
			t.Errorf("%d: %v, %v, %v", i, got, diags, e)
		}
	}
}

// Promise 37.1: what is no tree's outcome, each kind of it.
func TestWrong(t *testing.T) {
	cut := func(x *api.Object) { x.L = x.L[:len(x.L)-1] }
	longer := func(x *api.Object) { x.L = append(slices.Clone(x.L), num(0)) }
	fs := []func(o *api.Outcome){
		func(o *api.Outcome) { o.Kind = 0 }, func(o *api.Outcome) { o.Kind = api.OutFuel }, func(o *api.Outcome) { o.Kind = api.OutNil }, func(o *api.Outcome) { o.Kind = 9 },
		func(o *api.Outcome) { o.V = api.Val{} }, func(o *api.Outcome) { o.V = none }, func(o *api.Outcome) { o.V = num(3) }, func(o *api.Outcome) { o.V = ref(6) }, func(o *api.Outcome) { o.V = ref(1) }, func(o *api.Outcome) { o.V = ref(10) }, func(o *api.Outcome) { o.V = ref(-1) }, func(o *api.Outcome) { o.V = ref(math.MinInt64) }, func(o *api.Outcome) { o.V = api.Val{Kind: api.VBool, N: 3} },
		func(o *api.Outcome) { o.L = nil },
		func(o *api.Outcome) { o.L[3].L[0] = none }, func(o *api.Outcome) { o.L[3].L[1] = none }, func(o *api.Outcome) { o.L[3].L[1] = num(2) }, func(o *api.Outcome) { o.L[3].L[1] = ref(1) }, func(o *api.Outcome) { o.L[3].L[1] = ref(3) }, func(o *api.Outcome) { o.L[3].L[2] = ref(2) }, func(o *api.Outcome) { o.L[3].L[2] = num(0) }, func(o *api.Outcome) { o.L[3].L[2] = api.Val{} },
		func(o *api.Outcome) { o.L[3].L[2] = api.Val{Kind: api.VNil, N: 1} },
		func(o *api.Outcome) { o.L[2].L[5] = none }, func(o *api.Outcome) { o.L[2].L[5] = ref(5) }, func(o *api.Outcome) { o.L[2].L[5] = ref(2) }, func(o *api.Outcome) { o.L[2].L[5] = ref(7) }, func(o *api.Outcome) { o.L[2].L[5] = ref(0) },
		func(o *api.Outcome) { o.L[6].L[7] = ref(4); o.L[0].L[7] = none }, func(o *api.Outcome) { o.L[6].L[7] = num(0) }, func(o *api.Outcome) { o.L[6].L[7] = api.Val{Kind: api.VNil, N: -1} },
		func(o *api.Outcome) { o.L[9].L[7] = ref(0) }, func(o *api.Outcome) { o.L[9].L[7] = ref(9) }, func(o *api.Outcome) { o.L[9].L[7] = ref(2) }, func(o *api.Outcome) { o.L[9].L[5] = ref(6) }, func(o *api.Outcome) { o.L[9].L[5] = num(5) }, func(o *api.Outcome) { o.L[0].L[7] = ref(5) }, func(o *api.Outcome) { o.L[0].L[7] = ref(3) },
		func(o *api.Outcome) { o.L[9].L[4] = num(4) }, func(o *api.Outcome) { o.L[9].L[4] = num(-1) }, func(o *api.Outcome) { o.L[9].L[4] = num(math.MaxInt64) },
		func(o *api.Outcome) { o.L[8].L[4] = num(1) }, func(o *api.Outcome) { o.L[8].L[3] = num(4) }, func(o *api.Outcome) { o.L[0].L[0] = num(7) }, func(o *api.Outcome) { o.L[6].L[0] = num(2) }, func(o *api.Outcome) { o.L[6].L[3] = num(2) },
		func(o *api.Outcome) { o.L[5].L[3] = ref(1) }, func(o *api.Outcome) { o.L[5].L[3] = ref(0) }, func(o *api.Outcome) { o.L[5].L[3] = num(0) }, func(o *api.Outcome) { o.L[5].L[0] = none }, func(o *api.Outcome) { o.L[1].L[1] = odd }, func(o *api.Outcome) { o.L[1].L[2] = ref(0) },
	}
	for f := range 5 {
		fs = append(fs, func(o *api.Outcome) { o.L[4].L[f] = odd }, func(o *api.Outcome) { o.L[6].L[f] = none })
	}
	for _, i := range []int{0, 1, 2, 3, 4, 5, 6, 8, 9} {
		fs = append(fs, func(o *api.Outcome) { cut(&o.L[i]) }, func(o *api.Outcome) { longer(&o.L[i]) }, func(o *api.Outcome) { o.L[i].L = nil }, func(o *api.Outcome) { o.L[i].Type++ }, func(o *api.Outcome) { o.L[i].Type-- })
	}
	for i, f := range fs {
		o := made()
		f(&o)
		got, diags, e := decode.Tree(o, labels)
		if e != api.ErrForm || !reflect.DeepEqual(got, api.Tree{}) || len(diags) != 0 {
			t.Errorf("%d: %v, %v, %v", i, got, diags, e)
		}
	}
	for i, l := range [][]string{nil, {"l"}, {"L", ""}, {"token", ""}, {strings.Repeat("l", 21), ""}} {
		if _, _, e := decode.Tree(made(), l); e != api.ErrForm {
			t.Errorf("labels %d: %v", i, e)
		}
	}
}

// Promise 37.2: how many objects there are.
func TestObjects(t *testing.T) {
	for typ, want := range map[int]int{0: 6, 1: 2, 2: 1, 5: 1, 3: 0, -1: 0} {
		if got := decode.Objects(made(), typ); got != want {
			t.Errorf("%d: %d, want %d", typ, got, want)
		}
	}
	if decode.Objects(api.Outcome{}, 0) != 0 {
		t.Errorf("of none")
	}
}

// Promise 37.3, and trees as wide and as deep as can be.
func TestMany(t *testing.T) {
	wide := api.Outcome{Kind: api.OutDone, V: ref(0), L: []api.Object{{Type: 2, L: []api.Val{num(0), ref(1), none, none}}, {Type: 0, L: []api.Val{none, none, none, none, none, ref(2), none, none}}, node(1, 0, 0, 0, 0, ref(3), none)}}
	deep := wide
	deep.L = slices.Clone(wide.L)
	for i := int64(4); len(wide.L) < 100002; i++ {
		wide.L = append(wide.L, node(1, 0, 0, 0, 0, none, ref(i)))
		deep.L = append(deep.L, node(1, 0, 0, 0, 0, ref(i), none))
	}
	for i, o := range []api.Outcome{wide, deep} {
		if _, _, e := decode.Tree(o, nil); e != api.ErrForm {
			t.Errorf("%d: it points to what there is not: %v", i, e)
		}
		o.L[100001] = node(1, 0, 0, 0, 0, none, none)
		got, _, e := decode.Tree(o, nil)
		if e != api.OK || len(got.L) != 100000 || decode.Objects(o, 0) != len(got.L)+1 {
			t.Errorf("%d: %d nodes, %v", i, len(got.L), e)
		}
		o.L[100001] = node(1, 0, 0, 0, 0, none, ref(100002))
		o.L = append(o.L, node(1, 0, 0, 0, 0, none, none))
		if _, _, e := decode.Tree(o, nil); e != api.ErrForm {
			t.Errorf("%d: a node more: %v", i, e)
		}
	}
}

// Promises 37.1 and 37.3: what programs make.
func TestPrograms(t *testing.T) {
	g, _, _ := read.Parse("grammar g; look 1; token A, B, C, D; a: l=A (m=b | C)* D; b sync (A): B (k=A)?;")
	g, _, _ = bind.Bind(g)
	c, e := emit.Code(g)
	if e != api.OK {
		t.Fatal(e)
	}
	for n := range 400 {
		var w []int
		for m := n * 7; m > 0; m /= 4 {
			w = append(w, m%4+1)
		}
		o, e := machine.Run(c, "parse", w, 100000)
		got, diags, f := decode.Tree(o, emit.Labels(g))
		want, wrong, _ := walk.Walk(g, w)
		if e != api.OK || f != api.OK || !tree.Same(got, want) || !slices.Equal(diags, wrong) || len(got.L) > decode.Objects(o, 0) {
			t.Fatalf("%v: %v, %v, %v, want %v", w, e, f, diags, wrong)
		}
	}
}
