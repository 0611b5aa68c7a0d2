package walk_test

import (
	"fmt"
	"math"
	"reflect"
	"slices"
	"strings"
	"testing"

	"gramarye/api"
	"gramarye/bind"
	"gramarye/bnf"
	"gramarye/lang"
	"gramarye/read"
	"gramarye/tree"
	"gramarye/walk"
)

// bound reads and binds a grammar of the tokens A to F.
func bound(t *testing.T, look int, rules string) api.Grammar {
	t.Helper()
	g, at, e := read.Parse(fmt.Sprintf("grammar g; look %d; token A, B, C, D, E, F; %s", look, rules))
	if e != api.OK {
		t.Fatalf("%q: %d, %v", rules, at, e)
	}
	g, at, e = bind.Bind(g)
	if e != api.OK {
		t.Fatalf("%q: %d, %v", rules, at, e)
	}
	return g
}

func word(s string) []int {
	var w []int
	for _, c := range s {
		w = append(w, int(c-'@'))
	}
	return w
}

func text(g api.Grammar, t api.Tree) string {
	var rules []string
	for _, r := range g.Rules {
		rules = append(rules, r.Name)
	}
	return tree.Text(t, rules, g.Toks)
}

const letters = "a: x=b (A y=b)*; b: B | C a D;"

// Promise 23.1: trees, and what was wrong.
func TestTable(t *testing.T) {
	tok, choice, rest := api.DToken, api.DChoice, api.DRest
	for _, x := range []struct {
		look           int
		rules, w, want string
		wrong          []api.Diag
	}{
		{1, "a: A B* C;", "ABBC", "(a A B B C)", nil},
		{1, "a: A B* C;", "ADBC", "(a A <1..2> B C)", []api.Diag{{At: 1, Kind: choice, N: 1}}},
		{1, "a: A B* C;", "", "(a !A !C)", []api.Diag{{At: 0, Kind: tok, N: 1}}},
		{1, letters, "BACBD", "(a x:(b B) A y:(b C (a x:(b B)) D))", nil},
		{1, "a sync (D): (A | B) D;", "CCD", "(a <0..2> ?1 D)", []api.Diag{{At: 0, Kind: choice, N: 1}}},
		{1, "a: A B;", "B", "(a !A B)", []api.Diag{{At: 0, Kind: tok, N: 1}}},
		{1, "a: A B;", "AB", "(a A B)", nil},
		{1, "a: A B;", "ACB", "(a A <1..2> B)", []api.Diag{{At: 1, Kind: tok, N: 2}}},
		{1, "a: A B;", "ACCB", "(a A !B <1..4>)", []api.Diag{{At: 1, Kind: tok, N: 2}}},
		{1, "a: A B;", "ABC", "(a A B <2..3>)", []api.Diag{{At: 2, Kind: rest}}},
		{1, "a: A B;", "CAB", "(a <0..1> A B)", []api.Diag{{At: 0, Kind: tok, N: 1}}},
		{1, "a: A B;", "CADBE", "(a <0..1> A <2..3> B <4..5>)", []api.Diag{{At: 0, Kind: tok, N: 1}, {At: 2, Kind: tok, N: 2}, {At: 4, Kind: rest}}},
		{1, "a: A B;", "A", "(a A !B)", []api.Diag{{At: 1, Kind: tok, N: 2}}},
		{1, "a: A B A;", "C", "(a !A !B !A <0..1>)", []api.Diag{{At: 0, Kind: tok, N: 1}}},
		{1, "a: ;", "", "(a)", nil},
		{1, "a: ;", "AA", "(a <0..2>)", []api.Diag{{At: 0, Kind: rest}}},
		{1, "a: A? B;", "CB", "(a <0..1> B)", []api.Diag{{At: 0, Kind: choice, N: 1}}},
		{1, "a: A? B;", "CAB", "(a <0..1> A B)", []api.Diag{{At: 0, Kind: choice, N: 1}}},
		{1, "a: A? B;", "C", "(a <0..1> !B)", []api.Diag{{At: 0, Kind: choice, N: 1}, {At: 1, Kind: tok, N: 2}}},
		{1, "a: (A | B C)+ D;", "ABCAD", "(a A B C A D)", nil},
		{1, "a: (A | B C)+ D;", "D", "(a <0..1> ?2 !D)", []api.Diag{{At: 0, Kind: choice, N: 2}, {At: 1, Kind: choice, N: 1}}},
		{1, "a sync (D): (A | B C)+ D;", "D", "(a ?2 D)", []api.Diag{{At: 0, Kind: choice, N: 2}}},
		{1, "a sync (E): (A | B C)+ D;", "FED", "(a <0..1> ?2 <1..2> D)", []api.Diag{{At: 0, Kind: choice, N: 2}, {At: 1, Kind: choice, N: 1}}},
		{1, "a: (A | B C)+ D;", "BAD", "(a B !C A D)", []api.Diag{{At: 1, Kind: tok, N: 3}}},
		{1, "a: (A | B C)+ D;", "AFFBCF", "(a A <1..3> B C <5..6> !D)", []api.Diag{{At: 1, Kind: choice, N: 1}, {At: 5, Kind: choice, N: 1}, {At: 6, Kind: tok, N: 4}}},
		{1, "a: l=(A b) m=(B | b C)? n=(D)*; b: E k=F;", "AEFEFCDD", "(a l:A l:(b E k:F) m:(b E k:F) m:C n:D n:D)", nil},
		{1, "a: l=(A m=(B n=C)+ | D);", "ABCBC", "(a l:A m:B n:C m:B n:C)", nil},
		{1, "a: l=(A m=(B n=C)+ | D);", "", "(a l:?1)", []api.Diag{{At: 0, Kind: choice, N: 1}}},
		{1, "a: l=(A m=(B n=C)+ | D);", "AC", "(a l:A m:!B n:C)", []api.Diag{{At: 1, Kind: tok, N: 2}}},
		{2, "a: A | A B;", "A", "(a A)", nil},
		{2, "a: A | A B;", "AB", "(a A B)", nil},
		{2, "a: A | A B;", "AC", "(a ?1 <0..2>)", []api.Diag{{At: 0, Kind: choice, N: 1}}},
		{2, "a: (A B | A C)* A D;", "ACABAD", "(a A C A B A D)", nil},
		{2, "a: (A B | A C)* A D;", "AEABAD", "(a A !D <1..6>)", []api.Diag{{At: 0, Kind: choice, N: 1}, {At: 1, Kind: tok, N: 4}}},
		{2, "a: (A B | A C)* A D;", "FAAD", "(a <0..1> A <2..3> D)", []api.Diag{{At: 0, Kind: choice, N: 1}, {At: 2, Kind: tok, N: 4}}},
		{1, "a: b b; b sync (F): (A | B)? c; c: C;", "ACBC", "(a (b A (c C)) (b B (c C)))", nil},
		{1, "a: b b; b sync (F): (A | B)? c; c: C;", "DDFBC", "(a (b <0..2> (c !C)) (b (c !C)) <2..5>)", []api.Diag{{At: 0, Kind: choice, N: 3}, {At: 2, Kind: tok, N: 3}}},
		{1, "a: b b; b sync (F): (A | B)? c; c: C F?;", "DDFBC", "(a (b <0..2> (c !C F)) (b B (c C)))", []api.Diag{{At: 0, Kind: choice, N: 3}, {At: 2, Kind: tok, N: 3}}},
	} {
		g := bound(t, x.look, x.rules)
		got, wrong, e := walk.Walk(g, word(x.w))
		if e != api.OK || text(g, got) != x.want || !slices.Equal(wrong, x.wrong) {
			t.Errorf("%q, %q: %s, %v, %v, want %s, %v", x.rules, x.w, text(g, got), wrong, e, x.want, x.wrong)
		}
		if walk.Good(g, word(x.w)) != (len(x.wrong) == 0) {
			t.Errorf("%q, %q: good", x.rules, x.w)
		}
	}
}

// clear are grammars that are clear.
var clear = []struct {
	look  int
	rules string
}{
	{1, "a: A B* C;"},
	{1, letters},
	{1, "a sync (D): (A | B) D;"},
	{1, "a: A (B a)? C | ;"},
	{1, "a: (A | B C?)+ D;"},
	{1, "a: b c; b: (A B)*; c sync (A, B): C? D;"},
	{1, "a: (l=A (B | C m=a D)+)? ;"},
	{1, "a: e; e: t (A t)*; t: f (B f)*; f: C e D | A;"},
	{2, "a: A | A B;"},
	{2, "a: (A B | A C)* A D;"},
	{3, "a: b A B | b A C; b: D?;"},
	{2, "a sync (B, C): (A (B | A D)?)* C;"},
	{3, "a: (A A B | A A C | A B)+;"},
	{4, "a: A A A A | A A A B | b; b: A A B? C;"},
}

// Promises 23.2 to 23.4: of all short words.
func TestWords(t *testing.T) {
	for _, x := range clear {
		g := bound(t, x.look, x.rules)
		b, e := bnf.Of(g)
		if e != api.OK {
			t.Fatalf("%q: %v", x.rules, e)
		}
		more := g
		more.Look = min(g.Look+1, api.MaxLook)
		for n := 0; n < 5*5*5*5*5; n += 1 + n/100 {
			var w []int
			for m := n; m > 0; m = (m - 1) / 5 {
				w = append(w, (m-1)%5+1)
			}
			checkWord(t, g, b, w)
			if walk.Good(g, w) != walk.Good(more, w) {
				t.Fatalf("%q, %v: with one token ahead more it is another thing", x.rules, w)
			}
		}
	}
}

// checkWord asks what is promised of each word.
func checkWord(t *testing.T, g api.Grammar, b api.Bnf, w []int) {
	t.Helper()
	got, wrong, e := walk.Walk(g, w)
	if e != api.OK || tree.May(got) != api.OK {
		t.Fatalf("%v: %v, %v", w, e, tree.May(got))
	}
	var all []int
	for i := range w {
		all = append(all, i)
	}
	if !slices.Equal(tree.Places(got), all) || got.L[0].To != len(w) {
		t.Fatalf("%v: places %v", w, tree.Places(got))
	}
	last := -1
	for _, d := range wrong {
		if d.At <= last || d.At > len(w) {
			t.Fatalf("%v: wrong %v", w, wrong)
		}
		last = d.At
	}
	is, _ := lang.Accepts(b, w)
	if is != (len(wrong) == 0) || is != walk.Good(g, w) || is != tree.Clean(got) || is && !slices.Equal(tree.Word(got), w) {
		t.Fatalf("%v: accepted %v, wrong %v, tree %v", w, is, wrong, text(g, got))
	}
}

// Promise 23.1: errors, in their order.
func TestWrong(t *testing.T) {
	lost := bound(t, 1, "a: A b; b: B;")
	lost.L[1].N = 2
	toks := "A"
	for i := range 30 {
		toks += fmt.Sprint(", A", i)
	}
	wide, _, _ := read.Parse("grammar g; look 2; token " + toks + "; a: b b; b: " + strings.ReplaceAll(toks, ",", " |") + ";")
	wide, _, _ = bind.Bind(wide)
	costly := "a: "
	for range 9 {
		costly += "b "
	}
	costly += "; b: c c c c c c; c: " + strings.Repeat("A ", 40) + ";"
	good := bound(t, 1, "a: A*;")
	long := slices.Repeat([]int{1}, api.MaxWord+1)
	long[0] = 0
	for i, x := range []struct {
		g    api.Grammar
		w    []int
		want api.Errno
	}{
		{api.Grammar{}, long, api.ErrFull},
		{lost, long, api.ErrName},
		{bound(t, 1, "a: A a;"), long, api.ErrDead},
		{bound(t, 1, "a: a A | A;"), long, api.ErrLeft},
		{wide, long, api.ErrLimit},
		{bound(t, 1, "a: A | A B;"), long, api.ErrClash},
		{bound(t, 1, costly), long, api.ErrLimit},
		{good, long, api.ErrLong},
		{good, long[:api.MaxWord], api.ErrArg},
		{good, long[1:], api.OK},
		{good, []int{1, 7}, api.ErrArg},
		{good, []int{-1}, api.ErrArg},
		{good, []int{math.MinInt}, api.ErrArg},
		{good, []int{math.MaxInt}, api.ErrArg},
		{good, []int{257}, api.ErrArg},
		{good, []int{6}, api.OK},
	} {
		got, wrong, e := walk.Walk(x.g, x.w)
		if e != x.want || e != api.OK && (!reflect.DeepEqual(got, api.Tree{}) || len(wrong) > 0 || walk.Good(x.g, x.w)) {
			t.Errorf("%d: %v, %v, want %v", i, wrong, e, x.want)
		}
	}
}

// A word as long, and a tree as deep, as can be; and what costs much.
func TestLong(t *testing.T) {
	g := bound(t, 1, "a: (A l=a B)?;")
	w := slices.Concat(slices.Repeat([]int{1}, 500), slices.Repeat([]int{2}, 500))
	got, wrong, e := walk.Walk(g, w)
	if e != api.OK || len(wrong) > 0 || len(got.L) != 1501 || tree.May(got) != api.OK {
		t.Errorf("%d nodes, %v, %v", len(got.L), wrong, e)
	}
	g = bound(t, 1, "a: (A "+strings.Repeat("B ", 395)+")*;")
	got, wrong, e = walk.Walk(g, slices.Repeat([]int{1}, 1000))
	if e != api.OK || len(wrong) != 1000 || len(got.L) != 1+1000*396 || tree.May(got) != api.ErrForm {
		t.Errorf("%d nodes, %d wrong, %v", len(got.L), len(wrong), e)
	}
}

// Promise 23.1: a choice's guesses may be more than a trie has nodes.
func TestWide(t *testing.T) {
	var toks []string
	for i := range 59 {
		toks = append(toks, fmt.Sprint("T", i))
	}
	g, at, e := read.Parse("grammar g; look 3; token " + strings.Join(toks, ", ") + "; a: T0 T0 T0 (" + strings.Join(toks, " | ") + ") b b; b: " + strings.Join(toks[:24], " | ") + ";")
	if e != api.OK {
		t.Fatalf("%d, %v", at, e)
	}
	g, _, _ = bind.Bind(g)
	got, wrong, e := walk.Walk(g, []int{1, 1, 1, 59, 7, 24})
	if e != api.OK || len(wrong) > 0 || text(g, got) != "(a T0 T0 T0 T58 (b T6) (b T23))" {
		t.Errorf("%s, %v, %v", text(g, got), wrong, e)
	}
}
