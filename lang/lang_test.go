package lang_test

import (
	"math"
	"reflect"
	"slices"
	"testing"

	"gramarye/api"
	"gramarye/bnf"
	"gramarye/clash"
	"gramarye/first"
	"gramarye/lang"
	"gramarye/pack"
	"gramarye/reach"
	"gramarye/tuple"
)

// rules makes plain rules of the tokens X, Y, Z: each text is a nonterminal, by number, and what it leads to.
func rules(look, nons int, l ...string) api.Bnf {
	b := api.Bnf{Toks: 3, Look: look, Of: make([]int, nons)}
	for _, s := range l {
		p := api.Prod{Left: int(s[0] - '0')}
		for _, c := range s[1:] {
			if c >= 'X' {
				p.Right = append(p.Right, api.Sym{Tok: true, N: int(c - 'W')})
			} else {
				p.Right = append(p.Right, api.Sym{N: int(c - '0')})
			}
		}
		b.L = append(b.L, p)
	}
	return b
}

func word(s string) []int {
	var w []int
	for _, c := range s {
		w = append(w, int(c-'W'))
	}
	return w
}

// Promises 21.1 and 21.2, by a table.
func TestTable(t *testing.T) {
	for _, x := range []struct {
		b              api.Bnf
		w              string
		count, longest int
	}{
		{rules(1, 1, "0X0", "0"), "XX", 1, 2},
		{rules(1, 1, "0X0", "0"), "", 1, 0},
		{rules(1, 1, "0X0", "0"), "XXY", 0, 2},
		{rules(1, 1, "0X0", "0"), "YX", 0, 0},
		{rules(1, 1, "0X0", "0Y"), "XX", 0, -1},
		{rules(1, 1, "0X0", "0Y"), "XYXY", 0, 2},
		{rules(1, 1, "0X0Y", "0", "0X0Y"), "XXYY", 4, 4},
		{rules(1, 1, "0X0", "0XX0", "0"), "XXXXX", 8, 5},
		{rules(1, 1, "0X00", "0Y"), "XXYYY", 1, 5},
		{rules(1, 1, "0X00", "0"), "XXXX", 14, 4},
		{rules(1, 1, "0X00", "0"), "XXXXXXX", 429, 7},
		{rules(1, 1, "0X00", "0"), "XXXXXXXX", 1000, 8},
		{rules(1, 3, "0121", "1X", "1", "2Y", "2"), "X", 2, 1},
		{rules(1, 3, "0121", "1X", "1", "2Y", "2"), "XYX", 1, 3},
		{rules(1, 3, "0121", "1X", "1", "2Y", "2"), "XX", 1, 2},
		{rules(1, 2, "0X", "0Y1"), "Y", 0, -1},
		{rules(1, 2, "01X", "1X1"), "XX", 0, -1},
	} {
		n, e := lang.Count(x.b, 0, word(x.w))
		is, f := lang.Accepts(x.b, word(x.w))
		l, g := lang.Longest(x.b, word(x.w))
		if e != api.OK || f != api.OK || g != api.OK || n != x.count || is != (x.count > 0) || l != x.longest {
			t.Errorf("%v, %q: %d, %v, %d, %v, want %d, %d", x.b.L, x.w, n, is, l, e, x.count, x.longest)
		}
	}
}

// naive counts derivations by always going on with the first symbol that is left.
func naive(b api.Bnf, row []api.Sym, w []int) int {
	if len(row) == 0 {
		if len(w) == 0 {
			return 1
		}
		return 0
	}
	if s := row[0]; s.Tok {
		if len(w) == 0 || w[0] != s.N {
			return 0
		}
		return naive(b, row[1:], w[1:])
	}
	n := 0
	for _, p := range b.L {
		if p.Left == row[0].N {
			n += naive(b, slices.Concat(p.Right, row[1:]), w)
		}
	}
	return n
}

// Promises 21.1 to 21.3, of many small rules and all short words.
func TestSmall(t *testing.T) {
	rights := []string{"", "X", "Y0", "1", "2Y", "X1", "12", "X0Y", "21", "11", "X2"}
	for i := 0; i < 11*11*11*11; i += 13 {
		b := rules(1+i%4, 3, "0"+rights[i%11], "1"+rights[i/11%11], "2"+rights[i/121%11], "1"+rights[i/1331])
		if l, _ := reach.Left(b); len(l) > 0 {
			if _, e := lang.Count(b, 0, nil); e != api.ErrLeft {
				t.Fatalf("%v: %v", b.L, e)
			}
			continue
		}
		clear := clash.Check(b) == api.OK
		for m := range 1 << 5 {
			w := word("XXXX"[:m&1+m>>1&1+m>>2&1])
			for j := range w {
				w[j] = 1 + m>>(j+1)&1
			}
			n, e := lang.Count(b, i%3, w)
			if want := naive(b, []api.Sym{{N: i % 3}}, w); e != api.OK || n != min(want, 1000) {
				t.Fatalf("%v: %v by %d: %d, %v, want %d", b.L, w, i%3, n, e, want)
			}
			is, _ := lang.Accepts(b, w)
			all, _ := lang.Count(b, 0, w)
			words, _ := first.Words(b, 0, 4)
			if is != (all > 0) || is != pack.Has(words, tuple.Of(w...)) || clear && all > 1 {
				t.Fatalf("%v: %v: %v, %d, words %q", b.L, w, is, all, words)
			}
			longest := -1
			for j := range len(w) + 1 {
				if is, _ := lang.Accepts(b, w[:j]); is {
					longest = j
				}
			}
			if l, _ := lang.Longest(b, w); l != longest {
				t.Fatalf("%v: %v: longest %d, want %d", b.L, w, l, longest)
			}
		}
	}
}

// Promises 21.1 and 21.2: errors, in their order; odd tokens.
func TestWrong(t *testing.T) {
	good, left := rules(1, 2, "0X0", "0"), rules(1, 2, "0X", "11", "1")
	long := make([]int, 61)
	for i, x := range []struct {
		b    api.Bnf
		n    int
		w    []int
		want api.Errno
	}{
		{api.Bnf{}, 9, long, api.ErrFull},
		{rules(1, 1, "00", "01"), 9, long, api.ErrForm},
		{left, 9, long, api.ErrLeft},
		{good, 9, long, api.ErrLong},
		{good, 9, long[:60], api.ErrNone},
		{good, -1, nil, api.ErrNone},
		{good, 2, nil, api.ErrNone},
		{good, math.MinInt, nil, api.ErrNone},
		{good, math.MaxInt, nil, api.ErrNone},
	} {
		n, e := lang.Count(x.b, x.n, x.w)
		if e != x.want || n != 0 {
			t.Errorf("%d: %d, %v, want %v", i, n, e, x.want)
		}
		if x.want == api.ErrNone {
			continue
		}
		is, e := lang.Accepts(x.b, x.w)
		l, f := lang.Longest(x.b, x.w)
		if e != x.want || f != x.want || is || l != 0 {
			t.Errorf("%d: %v, %v, %d, %v", i, is, e, l, f)
		}
	}
	for _, w := range [][]int{{0}, {-1}, {4}, {math.MaxInt}, {257}, long[:60]} {
		is, e := lang.Accepts(good, w)
		l, f := lang.Longest(good, w)
		if is || l != 0 || e != api.OK || f != api.OK {
			t.Errorf("%v: %v, %d, %v, %v", w, is, l, e, f)
		}
	}
}

// As long, and as deep, as can be.
func TestLong(t *testing.T) {
	w := make([]int, 60)
	for i := range w {
		w[i] = 1
	}
	b := api.Bnf{Toks: 1, Look: 1, Of: make([]int, 500)}
	for n := range 499 {
		b.L = append(b.L, api.Prod{Left: n, Right: []api.Sym{{N: n + 1}}})
	}
	b.L = append(b.L, api.Prod{Left: 499, Right: []api.Sym{{Tok: true, N: 1}, {N: 0}}}, api.Prod{Left: 499})
	c := bnf.Same(b, b)
	n, e := lang.Count(b, 0, w)
	l, f := lang.Longest(b, append([]int{}, w[1:]...))
	if !c || n != 1 || e != api.OK || l != 59 || f != api.OK {
		t.Errorf("%d, %v, %d, %v", n, e, l, f)
	}
	if n, e := lang.Count(rules(1, 1, "0X00", "0"), 0, w); n != 1000 || e != api.OK {
		t.Errorf("%d, %v", n, e)
	}
	if !reflect.DeepEqual(w[:3], []int{1, 1, 1}) {
		t.Errorf("changed")
	}
}
