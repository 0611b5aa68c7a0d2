package first_test

import (
	"fmt"
	"math"
	"reflect"
	"slices"
	"strings"
	"testing"

	"gramarye/api"
	"gramarye/bnf"
	"gramarye/first"
	"gramarye/pack"
)

// rules makes plain rules of the tokens X, Y, Z: each text is a nonterminal, by number, and what it leads to.
func rules(look, nons int, l ...string) api.Bnf {
	b := api.Bnf{Toks: 3, Look: look, Of: make([]int, nons)}
	for _, s := range l {
		b.L = append(b.L, api.Prod{Left: int(s[0] - '0'), Right: syms(s[1:])})
	}
	return b
}

func syms(s string) []api.Sym {
	var l []api.Sym
	for _, c := range s {
		if c >= 'X' {
			l = append(l, api.Sym{Tok: true, N: int(c - 'W')})
		} else {
			l = append(l, api.Sym{N: int(c - '0')})
		}
	}
	return l
}

// tell tells a set with tokens as letters, and _ for an empty text.
func tell(l []string) string {
	var r []string
	for _, t := range l {
		s := ""
		for i := range len(t) {
			s += string(rune('W' + t[i]))
		}
		if s == "" {
			s = "_"
		}
		r = append(r, s)
	}
	return strings.Join(r, " ")
}

// naive is the least sets by rounds over all productions: texts of at most k tokens, longer ones cut, or left out.
func naive(b api.Bnf, k int, cut bool) [][]string {
	sets := make([]map[string]bool, len(b.Of))
	for n := range sets {
		sets[n] = map[string]bool{}
	}
	for grown := true; grown; {
		grown = false
		for _, p := range b.L {
			for t := range naiveRow(sets, p.Right, k, cut) {
				grown = grown || !sets[p.Left][t]
				sets[p.Left][t] = true
			}
		}
	}
	var r [][]string
	for _, s := range sets {
		l := []string{}
		for t := range s {
			l = append(l, t)
		}
		slices.Sort(l)
		r = append(r, l)
	}
	return r
}

func naiveRow(sets []map[string]bool, l []api.Sym, k int, cut bool) map[string]bool {
	r := map[string]bool{"": true}
	for _, s := range l {
		next := map[string]bool{}
		of := map[string]bool{string(rune(s.N)): true}
		if !s.Tok {
			of = sets[s.N]
		}
		for x := range r {
			for y := range of {
				if t := x + y; len(t) <= k {
					next[t] = true
				} else if cut {
					next[t[:k]] = true
				}
			}
		}
		r = next
	}
	return r
}

// Promise 14.1: beginnings, by a table.
func TestTable(t *testing.T) {
	for _, x := range []struct {
		b    api.Bnf
		want string
	}{
		{rules(2, 1, "0X0", "0Y"), "XX XY Y"},
		{rules(1, 1, "0X0", "0Y"), "X Y"},
		{rules(3, 1, "0X0", "0"), "_ X XX XXX"},
		{rules(2, 2, "01Y", "1X", "1"), "XY Y|_ X"},
		{rules(2, 2, "0X1", "11"), "|"},
		{rules(4, 2, "011", "1XY", "1Z"), "XYXY XYZ ZXY ZZ|XY Z"},
		{rules(1, 3, "012Z", "1X", "1", "2Y", "2"), "X Y Z|_ X|_ Y"},
		{rules(2, 1, "0"), "_"},
	} {
		sets, e := first.Of(x.b)
		var l []string
		for _, s := range sets {
			l = append(l, tell(s))
		}
		if got := strings.Join(l, "|"); e != api.OK || got != x.want {
			t.Errorf("%v: %s, %v, want %s", x.b.L, got, e, x.want)
		}
	}
}

// Promises 14.1 to 14.4, of many small rules.
func TestSmall(t *testing.T) {
	rights := []string{"", "X", "Y0", "1", "2Z", "01", "12", "X0Y", "21", "11", "X2"}
	for i := range 11 * 11 * 11 * 11 {
		b := rules(1+i%4, 3, "0"+rights[i%11], "1"+rights[i/11%11], "2"+rights[i/121%11], "1"+rights[i/1331])
		sets, e := first.Of(b)
		want := naive(b, b.Look, true)
		words := naive(b, 4, false)
		if e != api.OK || len(sets) != 3 {
			t.Fatalf("%v: %v", b.L, e)
		}
		for n := range 3 {
			if !slices.Equal(sets[n], want[n]) {
				t.Fatalf("%v of %d: %d has %q, want %q", b.L, b.Look, n, tell(sets[n]), tell(want[n]))
			}
			w, e := first.Words(b, n, 4)
			if e != api.OK || !slices.Equal(w, words[n]) {
				t.Fatalf("%v: words of %d: %q, %v, want %q", b.L, n, tell(w), e, tell(words[n]))
			}
			for _, s := range w {
				if !pack.Has(sets[n], s[:min(len(s), b.Look)]) {
					t.Fatalf("%v: %q begins no way of %d", b.L, tell([]string{s}), n)
				}
			}
			for _, s := range sets[n] {
				if len(s) < b.Look && !pack.Has(w, s) {
					t.Fatalf("%v: %q is no word of %d", b.L, tell([]string{s}), n)
				}
			}
		}
		for _, p := range b.L {
			r, e := first.Row(b, p.Right)
			if e != api.OK || !pack.Is(r) || len(pack.Join(r, sets[p.Left])) != len(sets[p.Left]) {
				t.Fatalf("%v: row %v: %q, %v", b.L, p, tell(r), e)
			}
		}
	}
}

// Promise 14.2: rows.
func TestRow(t *testing.T) {
	b := rules(3, 3, "0X0", "0Y", "1", "1Z", "22")
	for s, want := range map[string]string{
		"": "_", "X": "X", "1": "_ Z", "11": "_ Z ZZ", "1X1Y": "XY XZY ZXY ZXZ", "0": "XXX XXY XY Y", "0Z": "XXX XXY XYZ YZ", "2": "", "X2": "", "XYZ2": "", "2X": "", "XYZXYZ": "XYZ",
	} {
		r, e := first.Row(b, syms(s))
		if e != api.OK || tell(r) != want {
			t.Errorf("%s: %s, %v, want %s", s, tell(r), e, want)
		}
	}
	for _, s := range []api.Sym{{N: -1}, {N: 3}, {N: math.MaxInt}, {Tok: true}, {Tok: true, N: 4}, {Tok: true, N: -1}} {
		if r, e := first.Row(b, []api.Sym{{N: 2}, s}); e != api.ErrForm || len(r) > 0 {
			t.Errorf("%v: %v, %v", s, r, e)
		}
	}
}

// wide is rules where 0 is one of that many tokens; then further productions, of nonterminals from 1 on.
func wide(toks, look, nons int, l ...api.Prod) api.Bnf {
	b := api.Bnf{Toks: toks, Look: look, Of: make([]int, nons)}
	for n := 1; n <= toks; n++ {
		b.L = append(b.L, api.Prod{Left: 0, Right: []api.Sym{{Tok: true, N: n}}})
	}
	b.L = append(b.L, l...)
	return b
}

func prod(left int, right ...int) api.Prod {
	p := api.Prod{Left: left}
	for _, n := range right {
		p.Right = append(p.Right, api.Sym{N: n})
	}
	return p
}

// Promises 14.1 and 14.2: as many as can be, and one more.
func TestLimit(t *testing.T) {
	for i, x := range []struct {
		b    api.Bnf
		want api.Errno
	}{
		{wide(24, 2, 2, prod(1, 0, 0)), api.OK},                            // 576
		{wide(25, 2, 2, prod(1, 0, 0)), api.ErrLimit},                      // 625
		{wide(24, 2, 2, prod(1, 0, 0), prod(1, 0)), api.OK},                // 600
		{wide(24, 2, 2, prod(1, 0, 0), prod(1, 0), prod(1)), api.ErrLimit}, // 601
		{wide(25, 1, 2, prod(1, 0, 0)), api.OK},
		{wide(60, 4, 1), api.OK},
		{wide(25, 2, 3, prod(1, 0, 0, 2), prod(2, 2)), api.ErrLimit}, // the row's first symbols, though the row has none
		{wide(25, 2, 3, prod(1, 2, 0, 0), prod(2, 2)), api.OK},
	} {
		sets, e := first.Of(x.b)
		if e != x.want || e != api.OK && len(sets) > 0 {
			t.Errorf("%d: %v", i, e)
		}
		if r, f := first.Row(x.b, []api.Sym{{N: 99}}); f == api.OK || e != api.OK && f != e || e == api.OK && f != api.ErrForm || len(r) > 0 {
			t.Errorf("%d: a row that is none: %v", i, f)
		}
	}
	b := wide(25, 2, 2, prod(1, 1))
	for i, x := range []struct {
		l    []int
		want api.Errno
	}{{[]int{0}, api.OK}, {[]int{0, 0}, api.ErrLimit}, {[]int{0, 0, 1}, api.ErrLimit}, {[]int{1, 0, 0}, api.OK}} {
		if r, e := first.Row(b, prod(0, x.l...).Right); e != x.want || e != api.OK && len(r) > 0 {
			t.Errorf("row %d: %d, %v", i, len(r), e)
		}
	}
}

// Promise 14.3: words, their length, their limit.
func TestWords(t *testing.T) {
	b := rules(1, 2, "0X0Y", "0", "1Z1", "1")
	for most, want := range map[int]string{-1: "_", math.MinInt: "_", 0: "_", 1: "_", 2: "_ XY", 3: "_ XY", 4: "_ XXYY XY", 5: "_ XXYY XY", math.MaxInt: "_ XXYY XY"} {
		if w, e := first.Words(b, 0, most); e != api.OK || tell(w) != want {
			t.Errorf("most %d: %s, %v, want %s", most, tell(w), e, want)
		}
	}
	b = rules(1, 2, "0X0", "0")
	for most, want := range map[int]string{-5: "_", 0: "_", 1: "_ X", 4: "_ X XX XXX XXXX", 5: "_ X XX XXX XXXX", math.MaxInt: "_ X XX XXX XXXX"} {
		if w, e := first.Words(b, 0, most); e != api.OK || tell(w) != want {
			t.Errorf("most %d: %s, %v, want %s", most, tell(w), e, want)
		}
	}
	// Many ways to put words together, but not many words.
	if w, e := first.Words(wide(9, 1, 3, prod(1, 0, 1), prod(1), prod(2, 1, 1)), 2, 4); e != api.OK || len(w) != 1+9+81+729+6561 {
		t.Errorf("%d words, %v", len(w), e)
	}
	for _, n := range []int{-1, 2, math.MinInt, math.MaxInt} {
		if w, e := first.Words(b, n, 4); e != api.ErrNone || len(w) > 0 {
			t.Errorf("there is no %d: %v, %v", n, w, e)
		}
	}
	for i, x := range []struct {
		b    api.Bnf
		most int
		want api.Errno
	}{
		{wide(21, 1, 2, prod(1, 0, 0, 0)), 3, api.OK},       // 9261
		{wide(22, 1, 2, prod(1, 0, 0, 0)), 3, api.ErrLimit}, // 10648
		{wide(22, 1, 2, prod(1, 0, 0, 0)), 2, api.OK},
		{wide(10, 1, 2, prod(1, 0, 0, 0, 0)), 4, api.OK},                // 10000
		{wide(10, 1, 2, prod(1, 0, 0, 0, 0), prod(1)), 4, api.ErrLimit}, // 10001
		{wide(11, 1, 3, prod(1, 0, 0, 0, 0, 2), prod(2, 2)), 4, api.ErrLimit},
		{wide(60, 1, 2, prod(1, 1, 1), prod(1, 0), prod(1)), 4, api.ErrLimit},
	} {
		if w, e := first.Words(x.b, 0, x.most); e != x.want || e != api.OK && len(w) > 0 {
			t.Errorf("%d: %d words, %v", i, len(w), e)
		}
	}
}

// Of rules that may not be; and what is handed out shares nothing.
func TestWrong(t *testing.T) {
	for _, b := range []api.Bnf{{}, rules(5, 1, "0"), rules(1, 1, "01")} {
		want := bnf.May(b)
		l, e := first.Of(b)
		m, f := first.Row(b, []api.Sym{{N: 9}})
		n, g := first.Words(b, 9, 1)
		if want == api.OK || e != want || f != want || g != want || len(l)+len(m)+len(n) > 0 {
			t.Errorf("%v: %v, %v, %v, want %v", b, e, f, g, want)
		}
	}
	b := rules(2, 2, "01", "1X")
	sets, _ := first.Of(b)
	sets[0][0] = "changed"
	if sets[1][0] != "\x01" || !reflect.DeepEqual(b, rules(2, 2, "01", "1X")) {
		t.Errorf("two sets share something: %v", fmt.Sprint(sets))
	}
}
