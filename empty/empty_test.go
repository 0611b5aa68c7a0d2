package empty_test

import (
	"fmt"
	"math"
	"reflect"
	"testing"

	"gramarye/api"
	"gramarye/bnf"
	"gramarye/empty"
)

// rules makes plain rules of the tokens X, Y, Z: each text is a nonterminal, by number, and what it leads to.
func rules(nons int, l ...string) api.Bnf {
	b := api.Bnf{Toks: 3, Look: 1, Of: make([]int, nons)}
	for _, s := range l {
		p := api.Prod{Left: int(s[0] - '0')}
		for _, c := range s[1:] {
			if c >= 'X' {
				p.Right = append(p.Right, api.Sym{Tok: true, N: int(c - 'W')})
			} else {
				p.Right = append(p.Right, api.Sym{N: int(c - '0')})
			}
		}
		b.L = append(b.L, p)
	}
	return b
}

// Promises 10.1 to 10.3.
func TestAll(t *testing.T) {
	for _, x := range []struct {
		b       api.Bnf
		nothing string
		ends    string
		least   string
	}{
		{rules(2, "01", "1X0", "1"), "[true true]", "[true true]", "[0 0]"},
		{rules(1, "0X0"), "[false]", "[false]", "[-1]"},
		{rules(1, "00"), "[false]", "[false]", "[-1]"},
		{rules(2, "0X"), "[false false]", "[true false]", "[1 -1]"},
		{rules(2, "0XYZ", "0X1", "1XX", "1Y"), "[false false]", "[true true]", "[2 1]"},
		{rules(4, "0123", "1X", "1", "22", "2", "3Y", "31"), "[true true true true]", "[true true true true]", "[0 0 0 0]"},
		{rules(4, "0123", "1X", "1", "22", "2Z", "3Y", "31"), "[false true false true]", "[true true true true]", "[1 0 1 0]"},
		{rules(3, "01", "12", "20", "2XY"), "[false false false]", "[true true true]", "[2 2 2]"},
		{rules(3, "01", "12X", "11", "22"), "[false false false]", "[false false false]", "[-1 -1 -1]"},
		{rules(5, "043", "4332", "3221", "211X", "1XXXX", "111", "3Y"), "[false false false false false]", "[true true true true true]", "[12 4 9 1 11]"},
		{rules(2, "0111", "1X1", "1"), "[true true]", "[true true]", "[0 0]"},
	} {
		nothing, e := empty.Nothing(x.b)
		ends, f := empty.Ends(x.b)
		least, g := empty.Least(x.b)
		if e != api.OK || f != api.OK || g != api.OK {
			t.Errorf("%v: %v, %v, %v", x.b, e, f, g)
		}
		if fmt.Sprint(nothing) != x.nothing || fmt.Sprint(ends) != x.ends || fmt.Sprint(least) != x.least {
			t.Errorf("%v: %v, %v, %v, want %s, %s, %s", x.b, nothing, ends, least, x.nothing, x.ends, x.least)
		}
		for n := range nothing {
			if nothing[n] != (least[n] == 0) || ends[n] != (least[n] >= 0) {
				t.Errorf("%v: %v, %v, %v do not agree", x.b, nothing, ends, least)
			}
		}
	}
}

// Promise 10.2: least words double, and count as a million at most.
func TestMany(t *testing.T) {
	b := api.Bnf{Toks: 1, Look: 1, Of: make([]int, 500)}
	for n := range 499 {
		b.L = append(b.L, api.Prod{Left: n, Right: []api.Sym{{N: n + 1}, {N: n + 1}}})
	}
	b.L = append(b.L, api.Prod{Left: 499, Right: []api.Sym{{Tok: true, N: 1}}})
	least, e := empty.Least(b)
	if e != api.OK || len(least) != 500 {
		t.Fatalf("%v", e)
	}
	for n, got := range least {
		if want := 1 << min(499-n, 40); got != min(want, 1000000) {
			t.Errorf("nonterminal %d: %d", n, got)
		}
	}
	if nothing, _ := empty.Nothing(b); nothing[0] {
		t.Errorf("it may be nothing")
	}
}

// Promise 10.2: rows.
func TestRow(t *testing.T) {
	b := rules(3, "0X", "1", "211")
	for _, x := range []struct {
		l    []api.Sym
		want bool
	}{
		{nil, true},
		{[]api.Sym{{N: 1}}, true},
		{[]api.Sym{{N: 2}, {N: 1}, {N: 2}}, true},
		{[]api.Sym{{N: 1}, {N: 0}}, false},
		{[]api.Sym{{Tok: true, N: 1}}, false},
		{[]api.Sym{{Tok: true, N: 4}}, false},
		{[]api.Sym{{N: 1}, {N: 3}}, false},
		{[]api.Sym{{N: -1}}, false},
		{[]api.Sym{{N: math.MaxInt}}, false},
	} {
		if got := empty.Row(b, x.l); got != x.want {
			t.Errorf("%v: %v", x.l, got)
		}
	}
}

// Promise 10.2: rows of 0, which may be nothing.
func TestRowOf0(t *testing.T) {
	b := rules(1, "0", "0X")
	if !empty.Row(b, []api.Sym{{}, {}}) || empty.Row(b, []api.Sym{{}, {N: 1}}) {
		t.Errorf("0 is no nonterminal")
	}
}

// Promises 10.1 and 10.2: rules that may not be.
func TestWrong(t *testing.T) {
	form := rules(1, "01")
	look := rules(1, "0")
	look.Look = 5
	for _, b := range []api.Bnf{{}, form, look} {
		want := bnf.May(b)
		l, e := empty.Nothing(b)
		m, f := empty.Ends(b)
		n, g := empty.Least(b)
		if want == api.OK || e != want || f != want || g != want || len(l)+len(m)+len(n) > 0 || empty.Row(b, nil) {
			t.Errorf("%v: %v, %v, %v, want %v", b, e, f, g, want)
		}
	}
}

// What is handed in stays as it is.
func TestStays(t *testing.T) {
	b, c := rules(3, "012", "1X", "1", "21"), rules(3, "012", "1X", "1", "21")
	empty.Nothing(b)
	empty.Ends(b)
	empty.Least(b)
	empty.Row(b, b.L[0].Right)
	if !reflect.DeepEqual(b, c) {
		t.Errorf("changed: %v", b)
	}
}
