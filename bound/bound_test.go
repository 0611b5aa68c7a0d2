package bound_test

import (
	"fmt"
	"math"
	"math/big"
	"slices"
	"strings"
	"testing"

	"gramarye/api"
	"gramarye/bind"
	"gramarye/bound"
	"gramarye/cost"
	"gramarye/emit"
	"gramarye/read"
	"gramarye/run"
	"gramarye/tree"
	"gramarye/walk"
)

// parse reads and binds a grammar of the tokens A to D.
func parse(t *testing.T, look int, rules string) api.Grammar {
	t.Helper()
	g, at, e := read.Parse(fmt.Sprintf("grammar g; look %d; token A, B, C, D; %s", look, rules))
	if e != api.OK {
		t.Fatalf("%q: %d, %v", rules, at, e)
	}
	g, at, e = bind.Bind(g)
	if e != api.OK {
		t.Fatalf("%q: %d, %v", rules, at, e)
	}
	return g
}

var grammars = []struct {
	look  int
	rules string
}{
	{1, "a: A;"}, {1, "a: ;"}, {1, "a: A B* C;"}, {1, "a: x=b (A y=b)*; b: B | C a D;"}, {1, "a sync (D): (A | B) D;"}, {2, "a: A | A B;"}, {2, "a: (A B | A C)* A D;"}, {1, "a: (A | B C)+ D? b; b: (C D)*;"}, {4, "a: A A A A | A A A B | b; b: A A B? C;"}, {1, "a: (A " + strings.Repeat("B ", 60) + ")*;"},
}

// Promises 40.1 to 40.3.
func TestFuel(t *testing.T) {
	for _, x := range grammars {
		g := parse(t, x.look, x.rules)
		c, _ := emit.Code(g)
		each, e := bound.Each(g)
		if want := 4 * len(c.L) * len(g.L) * (2 + 2*len(g.Rules) + len(g.L)) * cost.Most(g); e != api.OK || each != want {
			t.Errorf("%q: %d, %v, want %d", x.rules, each, e, want)
		}
		for _, n := range []int{0, 1, 2, 7, 1000, 1 << 20, 1 << 31, 1 << 45, 1 << 60, math.MaxInt - 1, math.MaxInt} {
			want := new(big.Int).Mul(big.NewInt(int64(each)), new(big.Int).Add(big.NewInt(int64(n)), big.NewInt(1)))
			if want.Cmp(big.NewInt(1<<60)) > 0 {
				want = big.NewInt(1 << 60)
			}
			if got, e := bound.Fuel(g, n); e != api.OK || int64(got) != want.Int64() {
				t.Errorf("%q, %d: %d, %v, want %d", x.rules, n, got, e, want)
			}
		}
		for _, n := range []int{-1, math.MinInt} {
			if got, e := bound.Fuel(g, n); got != 0 || e != api.ErrArg {
				t.Errorf("%q, %d: %d, %v", x.rules, n, got, e)
			}
		}
	}
}

// Promise 40.3: that fuel is enough, for words short and long, right and wrong.
func TestEnough(t *testing.T) {
	for _, x := range grammars {
		g := parse(t, x.look, x.rules)
		var words [][]int
		for n := 0; n < 400; n += 1 + n/20 {
			var w []int
			for m := n * 5; m > 0; m /= 4 {
				w = append(w, m%4+1)
			}
			words = append(words, w, slices.Repeat(w, 20))
		}
		for _, w := range words {
			fuel, e := bound.Fuel(g, len(w))
			got, diags, steps, f := run.Run(g, w, fuel)
			want, wrong, h := walk.Walk(g, w)
			if e != api.OK || f != api.OK || h != api.OK || steps > fuel || !tree.Same(got, want) || !slices.Equal(diags, wrong) {
				t.Fatalf("%q, %v: %v, %v, %v, %d of %d", x.rules, w, e, f, h, steps, fuel)
			}
		}
	}
}

// Promise 40.1: errors, in their order.
func TestWrong(t *testing.T) {
	lost := parse(t, 1, "a: A b; b: B;")
	lost.L[1].N = 2
	for i, x := range []struct {
		g    api.Grammar
		want api.Errno
	}{
		{api.Grammar{}, api.ErrFull}, {lost, api.ErrName}, {parse(t, 1, "a: A a;"), api.ErrDead}, {parse(t, 1, "a: a A | A;"), api.ErrLeft}, {parse(t, 1, "a: A | A B;"), api.ErrClash},
		{parse(t, 1, "a: b b b b b b b b b; b: c c c c c c; c: "+strings.Repeat("A ", 40)+";"), api.ErrLimit},
	} {
		n, e := bound.Fuel(x.g, -1)
		m, f := bound.Each(x.g)
		if e != x.want || f != x.want || n+m != 0 {
			t.Errorf("%d: %v, %v, want %v", i, e, f, x.want)
		}
	}
}
