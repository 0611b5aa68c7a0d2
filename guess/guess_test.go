package guess_test

import (
	"fmt"
	"math"
	"reflect"
	"slices"
	"strings"
	"testing"

	"gramarye/api"
	"gramarye/bnf"
	"gramarye/first"
	"gramarye/follow"
	"gramarye/guess"
	"gramarye/pack"
	"gramarye/reach"
	"gramarye/tuple"
)

// rules makes plain rules of the tokens X, Y, Z: each text is a nonterminal, by number, and what it leads to.
func rules(look, nons int, l ...string) api.Bnf {
	b := api.Bnf{Toks: 3, Look: look, Of: make([]int, nons)}
	for _, s := range l {
		p := api.Prod{Left: int(s[0] - '0')}
		for _, c := range s[1:] {
			if c >= 'X' {
				p.Right = append(p.Right, api.Sym{Tok: true, N: int(c - 'W')})
			} else {
				p.Right = append(p.Right, api.Sym{N: int(c - '0')})
			}
		}
		b.L = append(b.L, p)
	}
	return b
}

// tell tells sets with tokens as letters.
func tell(sets [][]string) string {
	var l []string
	for _, set := range sets {
		var r []string
		for _, t := range set {
			r = append(r, strings.ReplaceAll(tuple.Text(t, []string{"X", "Y", "Z"}), " ", ""))
		}
		l = append(l, strings.Join(r, " "))
	}
	return strings.Join(l, "|")
}

// Promise 16.1, by a table.
func TestTable(t *testing.T) {
	for _, x := range []struct {
		b    api.Bnf
		want string
	}{
		{rules(1, 2, "01", "1X", "1"), "$ X|X|$"},
		{rules(1, 1, "0X", "0"), "X|$"},
		{rules(2, 2, "01Y", "1X1", "1"), "XX XY Y$|XX XY|Y$"},
		{rules(1, 2, "0X", "1Y"), "X|"},
		{rules(2, 3, "01Z2", "1X", "1XY", "2"), "XY XZ|XZ|XY|$$"},
		{rules(1, 2, "01", "1X1", "1Y"), "X Y|X|Y"},
	} {
		sets, e := guess.Of(x.b)
		if got := tell(sets); e != api.OK || got != x.want {
			t.Errorf("%v: %s, %v, want %s", x.b.L, got, e, x.want)
		}
	}
}

// Promises 16.1 to 16.3, of many small rules.
func TestSmall(t *testing.T) {
	rights := []string{"", "X", "Y0", "1", "2Z", "01", "12", "X0Y", "21", "11", "X2"}
	for i := 0; i < 11*11*11*11; i += 7 {
		b := rules(1+i%4, 3, "0"+rights[i%11], "1"+rights[i/11%11], "2"+rights[i/121%11], "1"+rights[i/1331])
		sets, e := guess.Of(b)
		if e != api.OK || len(sets) != len(b.L) {
			t.Fatalf("%v: %v", b.L, e)
		}
		behind, _ := follow.Of(b)
		for p, set := range sets {
			r, _ := first.Row(b, b.L[p].Right)
			if want := pack.Cat(r, behind[b.L[p].Left], b.Look); !slices.Equal(set, want) {
				t.Fatalf("%v: %q, want %q", b.L, set, want)
			}
		}
		ask(t, b, sets, i)
		if dead, _ := reach.Dead(b); len(dead) == 0 {
			words(t, b, sets)
		}
	}
}

// ask holds Pick and Heads of one nonterminal against the sets.
func ask(t *testing.T, b api.Bnf, sets [][]string, i int) {
	t.Helper()
	n := i % 3
	var all []string
	which := map[string]int{}
	for j, p := range bnf.Prods(b, n) {
		all = append(all, sets[p]...)
		for _, s := range sets[p] {
			if _, ok := which[s]; !ok {
				which[s] = j
			}
		}
	}
	if h, e := guess.Heads(b, n); e != api.OK || !slices.Equal(h, pack.Heads(all)) {
		t.Fatalf("%v: heads of %d: %v, %v", b.L, n, h, e)
	}
	for _, s := range append(all, "", "no", "\x03\x03\x03\x03"[:b.Look]) {
		want, ok := which[s]
		if !ok {
			want = -1
		}
		if got, e := guess.Pick(b, n, s); e != api.OK || got != want {
			t.Fatalf("%v: %d picks %d for %q, %v, want %d", b.L, n, got, s, e, want)
		}
	}
}

// words asks that the first tokens of each word of 0 are among the guesses of a production of 0.
func words(t *testing.T, b api.Bnf, sets [][]string) {
	t.Helper()
	l, _ := first.Words(b, 0, 4)
	var all []string
	for _, p := range bnf.Prods(b, 0) {
		all = append(all, sets[p]...)
	}
	for _, w := range l {
		if s := tuple.Cat(w, "\x00\x00\x00\x00", b.Look); !pack.Has(all, s) {
			t.Fatalf("%v: %q begins with what is not guessed", b.L, w)
		}
	}
}

// Promise 16.2: a nonterminal without productions, and none.
func TestNone(t *testing.T) {
	b := rules(1, 2, "0X1")
	if h, e := guess.Heads(b, 1); e != api.OK || len(h) > 0 {
		t.Errorf("heads: %v, %v", h, e)
	}
	if p, e := guess.Pick(b, 1, "\x00"); e != api.OK || p != -1 {
		t.Errorf("pick: %d, %v", p, e)
	}
	for _, n := range []int{-1, 2, math.MinInt, math.MaxInt} {
		h, e := guess.Heads(b, n)
		p, f := guess.Pick(b, n, "\x00")
		if e != api.ErrNone || f != api.ErrNone || len(h) > 0 || p != 0 {
			t.Errorf("there is no %d: %v, %v, %d, %v", n, h, e, p, f)
		}
	}
}

func prod(left int, right ...int) api.Prod {
	p := api.Prod{Left: left}
	for _, n := range right {
		p.Right = append(p.Right, api.Sym{N: n})
	}
	return p
}

// crossed is rules where 2 is one of that many tokens, and is followed by each of them, and by the end; what they all begin with are two tokens.
func crossed(toks int, more ...api.Prod) api.Bnf {
	b := api.Bnf{Toks: toks, Look: 2, Of: make([]int, 4+toks), L: append(more, prod(2, 1), prod(3, 2))}
	x := api.Sym{Tok: true, N: 1}
	for n := 1; n <= toks; n++ {
		tok := api.Sym{Tok: true, N: n}
		b.L = append(b.L, api.Prod{Left: 1, Right: []api.Sym{tok}}, api.Prod{Left: 3 + n, Right: []api.Sym{{N: 2}, tok}})
	}
	for n := range toks + 1 {
		b.L = append(b.L, api.Prod{Left: 0, Right: []api.Sym{x, x, {N: 3 + n}}})
	}
	return b
}

// Promise 16.1: as many as can be, and one more; and errors of layers below.
func TestWrong(t *testing.T) {
	deep := crossed(24)
	deep.L = append(deep.L, prod(3, 1, 1, 1), prod(3, 1, 1), prod(3))
	for i, x := range []struct {
		b    api.Bnf
		want api.Errno
	}{
		{crossed(24), api.OK},                // 24 * 25
		{crossed(24, prod(1)), api.ErrLimit}, // and the end alone
		{crossed(25), api.ErrLimit},          // 25 * 26
		{deep, api.ErrLimit},                 // of layer 14
		{crossed(25, prod(3, 2, 1)), api.ErrLimit},
		{api.Bnf{}, api.ErrFull},
		{rules(5, 1, "0"), api.ErrLook},
		{rules(1, 1, "01"), api.ErrForm},
	} {
		sets, e := guess.Of(x.b)
		h, f := guess.Heads(x.b, 0)
		p, g := guess.Pick(x.b, 0, "")
		if e == api.OK && p == -1 {
			p = 0
		}
		if e != x.want || f != x.want || g != x.want || e != api.OK && len(sets)+len(h)+p > 0 {
			t.Errorf("%d: %v, %v, %v, want %v", i, e, f, g, x.want)
		}
		if _, e := guess.Heads(x.b, 99); x.want != api.OK && e != x.want {
			t.Errorf("%d: of none: %v", i, e)
		}
	}
	for i, b := range []api.Bnf{crossed(24, prod(1)), crossed(25)} {
		if _, e := follow.Of(b); e != api.OK {
			t.Errorf("%d: what follows: %v", i, e)
		}
	}
	sets, _ := guess.Of(crossed(24))
	if len(sets[0]) != 600 {
		t.Errorf("%d guesses", len(sets[0]))
	}
}

// What is handed out shares nothing, and what is handed in stays.
func TestShares(t *testing.T) {
	b := rules(1, 3, "01", "02", "1", "2")
	sets, _ := guess.Of(b)
	for i := range sets {
		sets[i][0] = fmt.Sprint(i)
	}
	for i := range sets {
		if sets[i][0] != fmt.Sprint(i) {
			t.Errorf("two sets share something: %v", sets)
		}
	}
	if !reflect.DeepEqual(b, rules(1, 3, "01", "02", "1", "2")) {
		t.Errorf("changed")
	}
}
