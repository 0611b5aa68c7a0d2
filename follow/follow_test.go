package follow_test

import (
	"math"
	"reflect"
	"slices"
	"strings"
	"testing"

	"gramarye/api"
	"gramarye/bnf"
	"gramarye/first"
	"gramarye/follow"
	"gramarye/pack"
	"gramarye/reach"
	"gramarye/tuple"
)

// rules makes plain rules of the tokens X, Y, Z: each text is a nonterminal, by number, and what it leads to.
func rules(look, nons int, l ...string) api.Bnf {
	b := api.Bnf{Toks: 3, Look: look, Of: make([]int, nons)}
	for _, s := range l {
		p := api.Prod{Left: int(s[0] - '0')}
		for _, c := range s[1:] {
			if c >= 'X' {
				p.Right = append(p.Right, api.Sym{Tok: true, N: int(c - 'W')})
			} else {
				p.Right = append(p.Right, api.Sym{N: int(c - '0')})
			}
		}
		b.L = append(b.L, p)
	}
	return b
}

// tell tells sets with tokens as letters.
func tell(sets [][]string) string {
	var l []string
	for _, set := range sets {
		var r []string
		for _, t := range set {
			r = append(r, strings.ReplaceAll(tuple.Text(t, []string{"X", "Y", "Z"}), " ", ""))
		}
		l = append(l, strings.Join(r, " "))
	}
	return strings.Join(l, "|")
}

// Promise 15.1, by a table.
func TestTable(t *testing.T) {
	for _, x := range []struct {
		b    api.Bnf
		want string
	}{
		{rules(1, 2, "01X", "1Y"), "$|X"},
		{rules(2, 2, "01X", "1Y"), "$$|X$"},
		{rules(1, 2, "0X"), "$|"},
		{rules(1, 3, "0X", "12Y", "2"), "$||"},
		{rules(1, 2, "0X1", "0Y1Z", "1"), "$|$ Z"},
		{rules(1, 1, "0X0Y", "0"), "$ Y"},
		{rules(2, 1, "0X0Y", "0"), "$$ Y$ YY"},
		{rules(1, 3, "012", "1X", "2Y", "2"), "$|$ Y|$"},
		{rules(2, 3, "012Z", "1X", "2Y", "2"), "$$|YZ Z$|Z$"},
		{rules(2, 3, "0111", "1X", "1", "2"), "$$|$$ X$ XX|"},
		{rules(1, 3, "012", "1X", "22"), "$||$"},
		{rules(1, 2, "0X10", "0", "1Y"), "$|$ X"},
		{rules(4, 1, "00X", "0"), "$$$$ X$$$ XX$$ XXX$ XXXX"},
	} {
		sets, e := follow.Of(x.b)
		if got := tell(sets); e != api.OK || got != x.want {
			t.Errorf("%v: %s, %v, want %s", x.b.L, got, e, x.want)
		}
	}
}

// naive is the least sets by rounds over all places of nonterminals.
func naive(b api.Bnf) [][]string {
	sets := make([][]string, len(b.Of))
	sets[0] = []string{strings.Repeat("\x00", b.Look)}
	for grown := true; grown; {
		grown = false
		for _, p := range b.L {
			for i, s := range p.Right {
				if s.Tok {
					continue
				}
				r, _ := first.Row(b, p.Right[i+1:])
				next := pack.Join(sets[s.N], pack.Cat(r, sets[p.Left], b.Look))
				grown = grown || len(next) > len(sets[s.N])
				sets[s.N] = next
			}
		}
	}
	return sets
}

// Promises 15.1 to 15.3, of many small rules.
func TestSmall(t *testing.T) {
	rights := []string{"", "X", "Y0", "1", "2Z", "01", "12", "X0Y", "21", "11", "X2"}
	for i := 0; i < 11*11*11*11; i += 3 {
		b := rules(1+i%4, 3, "0"+rights[i%11], "1"+rights[i/11%11], "2"+rights[i/121%11], "1"+rights[i/1331])
		sets, e := follow.Of(b)
		want := naive(b)
		if e != api.OK || tell(sets) != tell(want) {
			t.Fatalf("%v of %d: %s, %v, want %s", b.L, b.Look, tell(sets), e, tell(want))
		}
		dead, _ := reach.Dead(b)
		reached, _ := reach.Reached(b)
		for n, set := range sets {
			if len(dead) == 0 && reached[n] != (len(set) > 0) {
				t.Fatalf("%v: %d is reached: %v; %s", b.L, n, reached[n], tell(sets))
			}
			for _, s := range set {
				if len(s) != b.Look || !tuple.May(s, b.Look) {
					t.Fatalf("%v: %q is not whole", b.L, s)
				}
			}
			if l, e := follow.Behind(b, n); e != api.OK || !slices.Equal(l, set) {
				t.Fatalf("%v: behind %d: %q, %v", b.L, n, l, e)
			}
		}
	}
}

// Promise 15.2, and errors.
func TestWrong(t *testing.T) {
	b := rules(1, 2, "01X", "1Y")
	for _, n := range []int{-1, 2, math.MinInt, math.MaxInt} {
		if l, e := follow.Behind(b, n); e != api.ErrNone || len(l) > 0 {
			t.Errorf("there is no %d: %v, %v", n, l, e)
		}
	}
	for _, b := range []api.Bnf{{}, rules(5, 1, "0"), rules(1, 1, "01")} {
		want := bnf.May(b)
		l, e := follow.Of(b)
		m, f := follow.Behind(b, 9)
		if want == api.OK || e != want || f != want || len(l)+len(m) > 0 {
			t.Errorf("%v: %v, %v, want %v", b, e, f, want)
		}
	}
	if !reflect.DeepEqual(b, rules(1, 2, "01X", "1Y")) {
		t.Errorf("changed")
	}
}

// wide is rules where 1 is one of that many tokens; then further productions.
func wide(toks, look, nons int, l ...api.Prod) api.Bnf {
	b := api.Bnf{Toks: toks, Look: look, Of: make([]int, nons), L: l}
	for n := 1; n <= toks; n++ {
		b.L = append(b.L, api.Prod{Left: 1, Right: []api.Sym{{Tok: true, N: n}}})
	}
	return b
}

func prod(left int, right ...int) api.Prod {
	p := api.Prod{Left: left}
	for _, n := range right {
		p.Right = append(p.Right, api.Sym{N: n})
	}
	return p
}

// Promise 15.1: as many as can be, and one more. (2 ends with nothing, 3 does not end.)
func TestLimit(t *testing.T) {
	two, three := prod(2), prod(3, 3)
	for i, x := range []struct {
		b    api.Bnf
		want api.Errno
	}{
		// What follows 2: 576 of two tokens each; 600 with 24 of one and the end; 601 with the end alone.
		{wide(24, 2, 4, prod(0, 2, 1, 1), two, three), api.OK},
		{wide(24, 2, 4, prod(0, 2, 1, 1), prod(0, 2, 1), two, three), api.OK},
		{wide(24, 2, 4, prod(0, 2, 1, 1), prod(0, 2, 1), prod(0, 2), two, three), api.ErrLimit},
		// The row behind has 600.
		{wide(24, 2, 5, prod(0, 2, 4), prod(4, 1, 1), prod(4, 1), two, three), api.OK},
		// The row behind, or its first symbols, though nothing follows where it stands.
		{wide(25, 2, 4, prod(0), prod(3, 2, 1, 1), two), api.ErrLimit},
		{wide(25, 2, 5, prod(0), prod(3, 4, 1, 1, 4), prod(4, 4)), api.ErrLimit},
		{wide(25, 2, 5, prod(0), prod(3, 4, 4, 1, 1), prod(4, 4)), api.ErrLimit},
		{wide(25, 2, 5, prod(0), prod(3, 4, 4, 1, 4, 1), prod(4, 4)), api.OK},
		{wide(24, 2, 5, prod(0), prod(3, 4, 1, 1, 4), prod(4, 4)), api.OK},
		// Of layer 14.
		{wide(25, 2, 4, prod(0, 1, 1)), api.ErrLimit},
	} {
		sets, e := follow.Of(x.b)
		if e != x.want || e != api.OK && len(sets) > 0 {
			t.Errorf("%d: %v", i, e)
		}
		if l, e := follow.Behind(x.b, 99); x.want != api.OK && e != x.want || x.want == api.OK && e != api.ErrNone || len(l) > 0 {
			t.Errorf("%d: behind none: %v", i, e)
		}
	}
}
