package stop_test

import (
	"fmt"
	"math"
	"reflect"
	"slices"
	"strings"
	"testing"

	"gramarye/api"
	"gramarye/bind"
	"gramarye/bnf"
	"gramarye/guess"
	"gramarye/read"
	"gramarye/stop"
)

// bound reads and binds a grammar of the tokens A to F.
func bound(t *testing.T, look int, rules string) api.Grammar {
	t.Helper()
	g, at, e := read.Parse(fmt.Sprintf("grammar g; look %d; token A, B, C, D, E, F; %s", look, rules))
	if e != api.OK {
		t.Fatalf("%q: %d, %v", rules, at, e)
	}
	g, at, e = bind.Bind(g)
	if e != api.OK {
		t.Fatalf("%q: %d, %v", rules, at, e)
	}
	return g
}

// Promise 19.1, by a table.
func TestTable(t *testing.T) {
	for _, x := range []struct {
		look        int
		rules, want string
	}{
		{1, "a sync (B): A*;", "[[] [0 1 2]]"},
		{1, "a: A*;", "[[] [0 1]]"},
		{1, "a: A;", "[[]]"},
		{2, "a: A* B;", "[[] [0 1 2]]"},
		{1, "a sync (F, E, F, A): A? b; b sync (C): (B | D) E;", "[[] [] [0 1 2 4 5 6] [0 2 3 4]]"},
		{1, "a sync (D): (A (B | C)+)* E;", "[[] [0 1 4 5] [0 1 2 3 4 5] [0 2 3 4]]"},
		{1, "a: b C | b D E; b: (A | B)?;", "[[] [] [0 1 2 3 4] [0 1 2 3 4] [0 1 2]]"},
		{3, "a sync (F): b A B | b A C; b: D?;", "[[] [] [0 1 4 6] [0 1 4]]"},
	} {
		l, e := stop.Of(bound(t, x.look, x.rules))
		if got := fmt.Sprint(l); e != api.OK || got != x.want {
			t.Errorf("%q: %s, %v, want %s", x.rules, got, e, x.want)
		}
	}
}

// Promise 19.1: nodes may stand in any order, and those of a later rule ahead of others.
func TestStand(t *testing.T) {
	g := bound(t, 1, "a sync (E): A? b; b sync (F): B?;")
	g.L = []api.Node{{Kind: api.KOpt, L: []int{5}}, {Kind: api.KSeq, L: []int{2, 4}}, {Kind: api.KOpt, L: []int{3}}, g.L[2], g.L[3], g.L[5]}
	g.Rules[0].Root, g.Rules[1].Root = 1, 0
	l, e := stop.Of(g)
	if got := fmt.Sprint(l); e != api.OK || got != "[[] [] [0 2 6] [0 1 2 5]]" {
		t.Errorf("%s, %v", got, e)
	}
}

// Promise 19.1: errors.
func TestWrong(t *testing.T) {
	lost := bound(t, 1, "a: A b; b: B;")
	lost.L[1].N = 2
	look := bound(t, 1, "a: A;")
	look.Look = 0
	toks := "A"
	for i := range 30 {
		toks += fmt.Sprint(", A", i)
	}
	all := strings.ReplaceAll(toks, ",", " |")
	wide, _, _ := read.Parse("grammar g; look 2; token " + toks + "; a: b b; b: " + all + ";")
	wide, _, e := bind.Bind(wide)
	b, f := bnf.Of(wide)
	if _, g := guess.Of(b); e != api.OK || f != api.OK || g != api.ErrLimit {
		t.Fatalf("%v, %v, %v", e, f, g)
	}
	for i, x := range []struct {
		g    api.Grammar
		want api.Errno
	}{{api.Grammar{}, api.ErrFull}, {look, api.ErrLook}, {lost, api.ErrName}, {wide, api.ErrLimit}} {
		if l, e := stop.Of(x.g); e != x.want || len(l) > 0 {
			t.Errorf("%d: %v, %v, want %v", i, l, e, x.want)
		}
	}
}

// Promises 19.2 and 19.3.
func TestNext(t *testing.T) {
	w := []int{1, 2, 3, 2, 1, 0, -1}
	for _, x := range []struct {
		stops    []int
		at, want int
	}{
		{[]int{2}, 0, 1}, {[]int{2}, 1, 1}, {[]int{2}, 2, 3}, {[]int{2}, 4, 7}, {[]int{0, 2, 3}, 2, 2}, {[]int{0}, 0, 5}, {[]int{-1}, 0, 6},
		{[]int{9}, 0, 7}, {nil, 0, 7}, {[]int{3, 1}, -5, 0}, {[]int{3}, math.MinInt, 2}, {[]int{1}, 7, 7}, {[]int{1}, 8, 7}, {[]int{1}, math.MaxInt, 7},
	} {
		if got := stop.Next(x.stops, w, x.at); got != x.want {
			t.Errorf("Next(%v, %v, %d): %d, want %d", x.stops, w, x.at, got, x.want)
		}
	}
	if stop.Next([]int{0}, nil, 0) != 0 {
		t.Errorf("of no word")
	}
	for at := range w {
		for s := -1; s < 4; s++ {
			n := stop.Next([]int{s}, w, at)
			if n < at || slices.Contains(w[at:n], s) || n < len(w) && w[n] != s {
				t.Errorf("%d from %d on: %d", s, at, n)
			}
		}
	}
}

// What is handed out shares nothing; what is handed in stays.
func TestShares(t *testing.T) {
	g := bound(t, 1, "a sync (B): A* C*;")
	l, _ := stop.Of(g)
	l[1][0] = 99
	if l[2][0] != 0 || !reflect.DeepEqual(g, bound(t, 1, "a sync (B): A* C*;")) {
		t.Errorf("%v", l)
	}
}
