package reach_test

import (
	"fmt"
	"math"
	"reflect"
	"slices"
	"testing"

	"gramarye/api"
	"gramarye/bnf"
	"gramarye/empty"
	"gramarye/reach"
)

// rules makes plain rules of the tokens X, Y, Z: each text is a nonterminal, by number, and what it leads to.
func rules(nons int, l ...string) api.Bnf {
	b := api.Bnf{Toks: 3, Look: 1, Of: make([]int, nons)}
	for _, s := range l {
		p := api.Prod{Left: int(s[0] - '0')}
		for _, c := range s[1:] {
			if c >= 'X' {
				p.Right = append(p.Right, api.Sym{Tok: true, N: int(c - 'W')})
			} else {
				p.Right = append(p.Right, api.Sym{N: int(c - '0')})
			}
		}
		b.L = append(b.L, p)
	}
	return b
}

// Promises 11.1 and 11.2, by tables.
func TestTables(t *testing.T) {
	for _, x := range []struct {
		b             api.Bnf
		reached, dead string
		left          string
		ways          map[int][]int
	}{
		{rules(2, "01X", "10", "1"), "[true true]", "[]", "[0 1]", map[int][]int{0: {0, 1, 0}, 1: {1, 0, 1}}},
		{rules(1, "0X"), "[true]", "[]", "[]", map[int][]int{0: nil}},
		{rules(1, "00"), "[true]", "[0]", "[0]", map[int][]int{0: {0, 0}}},
		{rules(1, "0X0"), "[true]", "[0]", "[]", map[int][]int{0: nil}},
		{rules(3, "0X", "12", "21"), "[true false false]", "[1 2]", "[1 2]", map[int][]int{0: nil, 1: {1, 2, 1}}},
		{rules(3, "0X1", "1Y", "20"), "[true true false]", "[]", "[]", nil},
		{rules(3, "0120", "0X", "1", "2", "2Y"), "[true true true]", "[]", "[0]", map[int][]int{0: {0, 0}, 1: nil}},
		{rules(3, "0120", "0X", "1", "2Y"), "[true true true]", "[]", "[]", map[int][]int{0: nil}},
		{rules(4, "01", "12", "23", "30", "20", "3X"), "[true true true true]", "[]", "[0 1 2 3]", map[int][]int{0: {0, 1, 2, 0}, 1: {1, 2, 0, 1}, 2: {2, 0, 1, 2}, 3: {3, 0, 1, 2, 3}}},
		{rules(3, "01X2", "1Y", "2Z0"), "[true true true]", "[0 2]", "[]", nil},
		{rules(2, "0X", "01", "10", "11"), "[true true]", "[]", "[0 1]", map[int][]int{1: {1, 1}}},
	} {
		r, e := reach.Reached(x.b)
		d, f := reach.Dead(x.b)
		l, g := reach.Left(x.b)
		if e != api.OK || f != api.OK || g != api.OK || fmt.Sprint(r) != x.reached || fmt.Sprint(d) != x.dead || fmt.Sprint(l) != x.left {
			t.Errorf("%v: %v, %v, %v, want %s, %s, %s", x.b.L, r, d, l, x.reached, x.dead, x.left)
		}
		for n, want := range x.ways {
			if got := reach.Way(x.b, n); !slices.Equal(got, want) {
				t.Errorf("%v: way of %d: %v, want %v", x.b.L, n, got, want)
			}
		}
	}
}

// direct tells whether n has a production in which m stands behind nothing but what may be nothing.
func direct(b api.Bnf, n, m int) bool {
	for _, p := range b.L {
		for i, s := range p.Right {
			if p.Left == n && !s.Tok && s.N == m && empty.Row(b, p.Right[:i]) {
				return true
			}
		}
	}
	return false
}

// Promises 11.2 and 11.3: of all small rules, by what begins with what.
func TestSmall(t *testing.T) {
	rights := []string{"", "X", "0", "1", "2", "01", "12", "X0", "21"}
	for i := range 9 * 9 * 9 * 9 {
		b := rules(3, "0"+rights[i%9], "1"+rights[i/9%9], "2"+rights[i/81%9], "1"+rights[i/729])
		begins := [3][3]bool{}
		for range 4 {
			for n := range 3 {
				for m := range 3 {
					begins[n][m] = begins[n][m] || direct(b, n, m)
					for k := range 3 {
						begins[n][m] = begins[n][m] || begins[n][k] && begins[k][m]
					}
				}
			}
		}
		left, _ := reach.Left(b)
		for n := range 3 {
			for m := range 3 {
				if reach.Begins(b, n, m) != begins[n][m] {
					t.Fatalf("%v: %d begins with %d: %v", b.L, n, m, !begins[n][m])
				}
			}
			if slices.Contains(left, n) != begins[n][n] || !slices.IsSorted(left) {
				t.Fatalf("%v: left %v", b.L, left)
			}
			checkWay(t, b, n, begins[n][n])
		}
	}
}

// checkWay asks that there is a way, if there should be, by direct steps, and none shorter.
func checkWay(t *testing.T, b api.Bnf, n int, is bool) {
	t.Helper()
	w := reach.Way(b, n)
	if is != (len(w) > 0) {
		t.Fatalf("%v: way of %d: %v", b.L, n, w)
	}
	if !is {
		return
	}
	for i := 1; i < len(w); i++ {
		if !direct(b, w[i-1], w[i]) || !reach.Begins(b, w[i], w[i]) {
			t.Fatalf("%v: way of %d: %v", b.L, n, w)
		}
	}
	least := 4
	for m := range 3 {
		if direct(b, n, n) {
			least = 2
		} else if least > 3 && direct(b, n, m) && direct(b, m, n) {
			least = 3
		}
	}
	if w[0] != n || w[len(w)-1] != n || len(w) != least {
		t.Fatalf("%v: way of %d: %v, want %d members", b.L, n, w, least)
	}
}

// Of rules that may not be, and of nonterminals that there are not.
func TestWrong(t *testing.T) {
	form := rules(1, "00", "01")
	for _, b := range []api.Bnf{{}, form} {
		want := bnf.May(b)
		r, e := reach.Reached(b)
		l, f := reach.Left(b)
		d, g := reach.Dead(b)
		if want == api.OK || e != want || f != want || g != want || len(r)+len(l)+len(d) > 0 || reach.Begins(b, 0, 0) || len(reach.Way(b, 0)) > 0 {
			t.Errorf("%v: %v, %v, %v, want %v", b, e, f, g, want)
		}
	}
	b := rules(2, "00", "10")
	for _, n := range []int{-1, 2, math.MinInt, math.MaxInt} {
		if reach.Begins(b, n, 0) || reach.Begins(b, 0, n) || len(reach.Way(b, n)) > 0 {
			t.Errorf("there is no %d", n)
		}
	}
	if !reach.Begins(b, 1, 0) || reach.Begins(b, 0, 1) {
		t.Errorf("one begins with the other one the wrong way")
	}
	if !reflect.DeepEqual(b, rules(2, "00", "10")) {
		t.Errorf("changed")
	}
}

// Promise 11.2: a chain as long as can be.
func TestLong(t *testing.T) {
	b := api.Bnf{Toks: 1, Look: 1, Of: make([]int, 500)}
	for n := range 500 {
		b.L = append(b.L, api.Prod{Left: n, Right: []api.Sym{{N: (n + 1) % 500}}})
	}
	l, _ := reach.Left(b)
	w := reach.Way(b, 7)
	if len(l) != 500 || len(w) != 501 || w[0] != 7 || w[1] != 8 || w[500] != 7 {
		t.Errorf("%d begin with themselves, a way of %d", len(l), len(w))
	}
}
