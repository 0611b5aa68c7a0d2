package clash_test

import (
	"fmt"
	"math"
	"slices"
	"testing"

	"gramarye/api"
	"gramarye/bind"
	"gramarye/bnf"
	"gramarye/clash"
	"gramarye/empty"
	"gramarye/guess"
	"gramarye/reach"
	"gramarye/read"
)

// rules makes plain rules of the tokens X, Y, Z: each text is a nonterminal, by number, and what it leads to.
func rules(look, nons int, l ...string) api.Bnf {
	b := api.Bnf{Toks: 3, Look: look, Of: make([]int, nons)}
	for _, s := range l {
		p := api.Prod{Left: int(s[0] - '0')}
		for _, c := range s[1:] {
			if c >= 'X' {
				p.Right = append(p.Right, api.Sym{Tok: true, N: int(c - 'W')})
			} else {
				p.Right = append(p.Right, api.Sym{N: int(c - '0')})
			}
		}
		b.L = append(b.L, p)
	}
	return b
}

// Promise 17.1, by a table.
func TestTable(t *testing.T) {
	for _, x := range []struct {
		b    api.Bnf
		e    api.Errno
		want string
	}{
		{rules(1, 1, "0X", "0XY"), api.ErrClash, `[{0 0 1 "\x01"}]`},
		{rules(2, 1, "0X", "0XY"), api.OK, `[]`},
		{rules(1, 1, "0X", "0Y", "0"), api.OK, `[]`},
		{rules(1, 1, "0XX", "0XY", "0X", "0Y"), api.ErrClash, `[{0 0 1 "\x01"} {0 0 2 "\x01"} {0 1 2 "\x01"}]`},
		{rules(1, 2, "01X", "1X", "1"), api.ErrClash, `[{1 0 1 "\x01"}]`},
		{rules(2, 2, "01X", "1X", "1"), api.OK, `[]`},
		{rules(1, 3, "021", "1Y", "1YZ", "2", "2YX", "1Z", "2Z"), api.ErrClash, `[{1 0 1 "\x02"} {2 0 1 "\x02"} {2 0 2 "\x03"}]`},
		{rules(1, 1, "0X0"), api.ErrDead, `[]`},
		{rules(1, 2, "0X", "1X1"), api.ErrDead, `[]`},
		{rules(1, 2, "0X", "11", "1"), api.ErrLeft, `[]`},
		{rules(1, 2, "00", "0X", "1X1"), api.ErrDead, `[{0 0 1 "\x01"}]`},
		{rules(1, 1, "00Y", "0X"), api.ErrLeft, `[{0 0 1 "\x01"}]`},
		{rules(3, 1, "0X0Y", "0XX", "0"), api.ErrClash, `[{0 0 1 "\x01\x01\x02"}]`},
	} {
		l, e := clash.All(x.b)
		if got := tell(l); e != api.OK || got != x.want {
			t.Errorf("%v: %s, %v, want %s", x.b.L, got, e, x.want)
		}
		if got := clash.Check(x.b); got != x.e {
			t.Errorf("%v: %v, want %v", x.b.L, got, x.e)
		}
	}
}

func tell(l []clash.Clash) string {
	s := "["
	for i, c := range l {
		if i > 0 {
			s += " "
		}
		s += fmt.Sprintf("{%d %d %d %q}", c.Non, c.I, c.J, c.T)
	}
	return s + "]"
}

// Promises 17.1 and 17.3, of many small rules.
func TestSmall(t *testing.T) {
	rights := []string{"", "X", "Y0", "1", "2Z", "01", "12", "X0Y", "21", "11", "X2"}
	for i := 0; i < 11*11*11*11; i += 5 {
		b := rules(1+i%4, 3, "0"+rights[i%11], "1"+rights[i/11%11], "2"+rights[i/121%11], "1"+rights[i/1331])
		sets, _ := guess.Of(b)
		var want []clash.Clash
		for n := range 3 {
			l := bnf.Prods(b, n)
			for i := range l {
				for j := i + 1; j < len(l); j++ {
					for _, s := range sets[l[i]] {
						if slices.Contains(sets[l[j]], s) {
							want = append(want, clash.Clash{Non: n, I: i, J: j, T: s})
							break
						}
					}
				}
			}
		}
		got, e := clash.All(b)
		if e != api.OK || tell(got) != tell(want) {
			t.Fatalf("%v: %s, %v, want %s", b.L, tell(got), e, tell(want))
		}
		ends, _ := empty.Ends(b)
		left, _ := reach.Left(b)
		first := api.OK
		switch {
		case slices.Contains(ends, false):
			first = api.ErrDead
		case len(left) > 0:
			first = api.ErrLeft
		case len(want) > 0:
			first = api.ErrClash
		}
		if e := clash.Check(b); e != first {
			t.Fatalf("%v: %v, want %v", b.L, e, first)
		}
		if first == api.OK && b.Look < api.MaxLook {
			b.Look++
			if e := clash.Check(b); e != api.OK {
				t.Fatalf("%v: with one token more: %v", b.L, e)
			}
		}
	}
}

// wide is rules where 0 is two of that many tokens.
func wide(toks int, l ...api.Prod) api.Bnf {
	b := api.Bnf{Toks: toks, Look: 2, Of: make([]int, 2), L: l}
	for n := 1; n <= toks; n++ {
		b.L = append(b.L, api.Prod{Left: 1, Right: []api.Sym{{Tok: true, N: n}}})
	}
	b.L = append(b.L, api.Prod{Left: 0, Right: []api.Sym{{N: 1}, {N: 1}}})
	return b
}

// Promise 17.1: errors, in their order.
func TestWrong(t *testing.T) {
	again := api.Prod{Left: 1, Right: []api.Sym{{Tok: true, N: 1}}}
	left := api.Prod{Left: 1, Right: []api.Sym{{N: 1}, {N: 1}}}
	for i, x := range []struct {
		b          api.Bnf
		check, all api.Errno
	}{
		{api.Bnf{}, api.ErrFull, api.ErrFull},
		{rules(0, 1, "00"), api.ErrLook, api.ErrLook},
		{rules(1, 1, "00", "01"), api.ErrForm, api.ErrForm},
		{wide(24), api.OK, api.OK},
		{wide(25), api.ErrLimit, api.ErrLimit},
		{wide(25, again), api.ErrLimit, api.ErrLimit},
		{wide(24, again), api.ErrClash, api.OK},
		{wide(25, left), api.ErrLeft, api.ErrLimit},
	} {
		l, e := clash.All(x.b)
		if got := clash.Check(x.b); got != x.check || e != x.all || e != api.OK && len(l) > 0 {
			t.Errorf("%d: %v, %v, want %v, %v", i, got, e, x.check, x.all)
		}
	}
}

// Promise 17.2: where a nonterminal stands.
func TestWhere(t *testing.T) {
	g, _, _ := read.Parse("grammar g; look 1; token X; a: X (b | X)?; b: X*;")
	g, _, e := bind.Bind(g)
	b, f := bnf.Of(g)
	if e != api.OK || f != api.OK {
		t.Fatalf("%v, %v", e, f)
	}
	for n, want := range []int{28, 43, 33, 34, 46} {
		if got := clash.Where(g, b, n); got != want {
			t.Errorf("%d stands at %d, want %d", n, got, want)
		}
	}
	for _, n := range []int{-1, 5, math.MinInt, math.MaxInt} {
		if got := clash.Where(g, b, n); got != 0 {
			t.Errorf("%d stands at %d", n, got)
		}
	}
	odd := api.Bnf{Of: []int{-2, 99, -1, -1, 0, math.MinInt, math.MaxInt, len(g.L), len(g.L) - 1}}
	for n, want := range []int{0, 0, 0, 0, g.L[0].Pos, 0, 0, 0, g.L[len(g.L)-1].Pos} {
		if got := clash.Where(g, odd, n); got != want {
			t.Errorf("of odd rules %d stands at %d, want %d", n, got, want)
		}
	}
	if got := clash.Where(api.Grammar{}, b, 0) + clash.Where(api.Grammar{}, b, 2) + clash.Where(g, api.Bnf{}, 0); got != 0 {
		t.Errorf("of no grammar: %d", got)
	}
}
