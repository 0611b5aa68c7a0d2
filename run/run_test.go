package run_test

import (
	"fmt"
	"math"
	"reflect"
	"slices"
	"strings"
	"testing"

	"gramarye/api"
	"gramarye/bind"
	"gramarye/emit"
	"gramarye/machine"
	"gramarye/parse"
	"gramarye/read"
	"gramarye/run"
	"gramarye/tree"
	"gramarye/walk"
)

// bound reads and binds a grammar of the tokens A to F.
func bound(t *testing.T, look int, rules string) api.Grammar {
	t.Helper()
	g, at, e := read.Parse(fmt.Sprintf("grammar g; look %d; token A, B, C, D, E, F; %s", look, rules))
	if e != api.OK {
		t.Fatalf("%q: %d, %v", rules, at, e)
	}
	g, at, e = bind.Bind(g)
	if e != api.OK {
		t.Fatalf("%q: %d, %v", rules, at, e)
	}
	return g
}

const enough = 1 << 40

// Promises 38.2 and 38.3: what is told is what layer 23 tells.
func TestSame(t *testing.T) {
	for _, x := range []struct {
		look  int
		rules string
	}{
		{1, "a: A B;"},
		{1, "a: ;"},
		{1, "a: x=b (A y=b)*; b: B | C a D;"},
		{1, "a sync (D): (A | B) D;"},
		{1, "a: l=(A (B | C m=a D)+)? n=b; b: E* ;"},
		{1, "a: l=((A m=(B n=C)+)* D)? E ((E | F) | A B)* ;"},
		{2, "a: A | A B;"},
		{2, "a sync (B, C): (A (B | A D)?)* C;"},
		{3, "a: b A B | b A C; b: D?;"},
		{4, "a: A A A A | A A A B | b; b: A A B? C;"},
	} {
		g := bound(t, x.look, x.rules)
		c, _ := emit.Code(g)
		for n := 0; n < 3000; n += 1 + n/8 {
			var w []int
			for m := n * 11; m > 0; m /= 6 {
				w = append(w, m%6+1)
			}
			want, wrong, e := walk.Walk(g, w)
			if e != api.OK {
				t.Fatalf("%q: %v", x.rules, e)
			}
			got, diags, steps, e := run.Run(g, w, enough)
			if e != api.OK || !tree.Same(got, want) || !slices.Equal(diags, wrong) || run.Good(g, w, enough) != (len(wrong) == 0) {
				t.Fatalf("%q, %v: %v, %v, want %v", x.rules, w, e, diags, wrong)
			}
			again, more, s, e := run.Program(c, emit.Labels(g), w, steps)
			if e != api.OK || !tree.Same(again, want) || !slices.Equal(more, wrong) || s != steps {
				t.Fatalf("%q, %v: program: %v, %d steps, want %d", x.rules, w, e, s, steps)
			}
			if out, _ := machine.Run(c, "parse", w, enough); out.Steps != steps || len(out.L) != len(want.L)+len(wrong)+2 {
				t.Fatalf("%q, %v: %d steps, %d objects, want %d", x.rules, w, steps, len(out.L), len(want.L)+len(wrong)+2)
			}
			if got, diags, s, e := run.Run(g, w, steps-1); e != api.ErrFull || len(got.L)+len(diags)+s > 0 || run.Good(g, w, steps-1) {
				t.Fatalf("%q, %v: with too little fuel: %v", x.rules, w, e)
			}
		}
	}
}

// Promise 38.2: errors of grammars, in their order.
func TestWrong(t *testing.T) {
	good := bound(t, 1, "a: A B;")
	lost := bound(t, 1, "a: A b; b: B;")
	lost.L[1].N = 2
	long := slices.Repeat([]int{1}, api.MaxWord+1)
	long[0] = 0
	for i, x := range []struct {
		g    api.Grammar
		w    []int
		fuel int
		want api.Errno
	}{
		{api.Grammar{}, long, -1, api.ErrFull},
		{lost, long, -1, api.ErrName},
		{bound(t, 1, "a: A | A B;"), long, -1, api.ErrClash},
		{bound(t, 1, "a: A a;"), long, -1, api.ErrDead},
		{good, long, -1, api.ErrLong},
		{good, long[:1000], enough, api.ErrArg},
		{good, long[1:], -1, api.ErrArg},
		{good, long[1:], math.MinInt, api.ErrArg},
		{good, long[1:], enough, api.OK},
		{good, []int{7}, enough, api.ErrArg},
		{good, []int{-1}, enough, api.ErrArg},
		{good, []int{math.MaxInt}, enough, api.ErrArg},
		{good, []int{6}, enough, api.OK},
		{good, []int{1}, 0, api.ErrFull},
	} {
		got, diags, steps, e := run.Run(x.g, x.w, x.fuel)
		if e != x.want || e != api.OK && (!reflect.DeepEqual(got, api.Tree{}) || len(diags)+steps > 0 || run.Good(x.g, x.w, x.fuel)) {
			t.Errorf("%d: %v, want %v", i, e, x.want)
		}
	}
	if got, diags, _, e := run.Run(good, []int{2}, enough); e != api.OK || tree.Text(got, []string{"a"}, []string{"A", "B"}) != "(a !A B)" || !slices.Equal(diags, []api.Diag{{Kind: api.DToken, N: 1}}) {
		t.Errorf("%v, %v, %v", got, diags, e)
	}
}

// Promise 38.1: programs, whosever they are.
func TestProgram(t *testing.T) {
	things := "type tree struct {\nkind int\nn int\nat int\nto int\nlabel int\nfirst *tree\nlast *tree\nnext *tree\n}\ntype diag struct {\nat int\nkind int\nn int\nnext *diag\n}\ntype state struct {\nat int\ntop *tree\nfirst *diag\nlast *diag\n}\n"
	for i, x := range []struct {
		body string
		fuel int
		want api.Errno
	}{
		{"func parse() *state {\ns := new(state)\ns.top = new(tree)\ns.top.first = new(tree)\ns.top.first.kind = 1\nreturn s\n}\n", enough, api.OK},
		{"func parse() *state {\ns := new(state)\ns.top = new(tree)\ns.top.first = new(tree)\ns.top.first.kind = 1\ns.top.first.label = 1\ns.first = new(diag)\nreturn s\n}\n", enough, api.OK},
		{"func parse() *state {\ns := new(state)\ns.top = new(tree)\ns.top.first = new(tree)\ns.top.first.kind = 1\ns.top.first.label = 2\nreturn s\n}\n", enough, api.ErrForm},
		{"func parse() *state {\nreturn new(state)\n}\n", enough, api.ErrForm},
		{"func parse() *state {\nreturn nil\n}\n", enough, api.ErrForm},
		{"func parse() int {\nreturn 1\n}\n", enough, api.ErrForm},
		{"func parse() {\n}\n", enough, api.ErrForm},
		{"func parse() *state {\nreturn nil\n}\n", 0, api.ErrFull},
		{"func parse() *state {\nfor true {\n}\nreturn nil\n}\n", 5000, api.ErrFull},
		{"func parse() int {\nreturn new(state).top.at\n}\n", enough, api.ErrRule},
		{"func parse() int {\nreturn parse()\n}\n", enough, api.ErrRule},
		{"func parse() int {\nfor true {\ns := new(state)\n}\nreturn 1\n}\n", enough, api.ErrRule},
		{"func parse(x int) *state {\nreturn nil\n}\n", enough, api.ErrNone},
		{"func parser() *state {\nreturn nil\n}\n", -1, api.ErrNone},
		{"func parse() *state {\nreturn nil\n}\n", -1, api.ErrArg},
		{"func parse() *state {\nreturn 1\n}\n", -1, api.ErrType},
		{"func parse() *state {\nreturn x\n}\n", -1, api.ErrScope},
	} {
		c, at, e := parse.Parse("package p\n" + things + x.body)
		if e != api.OK {
			t.Fatalf("%d: %d, %v", i, at, e)
		}
		got, diags, steps, e := run.Program(c, []string{"l"}, []int{99, -1}, x.fuel)
		if e != x.want || e == api.OK && (len(got.L) != 1 || steps == 0) || e != api.OK && (!reflect.DeepEqual(got, api.Tree{}) || len(diags)+steps > 0) {
			t.Errorf("%d: %v, %v, %d, %v, want %v", i, got, diags, steps, e, x.want)
		}
	}
	c, _, _ := parse.Parse("package p\n")
	c.L = make([]api.Cnode, 1)
	if _, _, _, e := run.Program(c, nil, nil, -1); e != api.ErrForm {
		t.Errorf("%v", e)
	}
}

// The bounds of 38.3: a run that is too deep, and one that makes too much.
func TestBounds(t *testing.T) {
	g := bound(t, 1, "a: A? B (C "+strings.Repeat("D ", 300)+")*;")
	w := append([]int{2}, slices.Repeat([]int{3}, 999)...)
	if _, _, _, e := run.Run(g, w, enough); e != api.ErrRule {
		t.Errorf("too many objects: %v", e)
	}
	deep := bound(t, 1, "a: (A b)?; b: c; c: d; d: e; e: f; f: h; h: i; i: j; j: k; k: l; l: m; m: a B;")
	w = slices.Repeat([]int{1}, 1000)
	want, wrong, e := walk.Walk(deep, w)
	if e != api.OK || len(want.L) < 10000 || len(wrong) == 0 {
		t.Fatalf("%d, %v", len(want.L), e)
	}
	if _, _, _, e := run.Run(deep, w, enough); e != api.ErrRule {
		t.Errorf("too deep: %v", e)
	}
	got, diags, _, e := run.Run(deep, w[:800], enough)
	if want, wrong, _ := walk.Walk(deep, w[:800]); e != api.OK || !tree.Same(got, want) || !slices.Equal(diags, wrong) {
		t.Errorf("not so deep: %v", e)
	}
}
