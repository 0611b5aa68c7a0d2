package read_test

import (
	"fmt"
	"reflect"
	"strings"
	"testing"

	"gramarye/api"
	"gramarye/gram"
	"gramarye/read"
)

const head = "grammar g; look 1; token X, Y; "

func node(kind int, name, label string, pos int, l ...int) api.Node {
	return api.Node{Kind: kind, Name: name, Label: label, Pos: pos, L: l}
}

// Promise 6.1: a whole text, with all that stands where.
func TestParse(t *testing.T) {
	s := "grammar gr_1; look 4;\ntoken X, Y;\na sync (Y, X, Y): X l=b?; # one\nb: ;"
	want := api.Grammar{
		Name: "gr_1", Look: 4, Toks: []string{"X", "Y"},
		Rules: []api.Rule{
			{Name: "a", Sync: []string{"Y", "X", "Y"}, Root: 0, Pos: 34},
			{Name: "b", Root: 4, Pos: 66},
		},
		L: []api.Node{
			node(api.KSeq, "", "", 52, 1, 2), node(api.KTok, "X", "", 52), node(api.KOpt, "", "l", 56, 3), node(api.KRef, "b", "", 56),
			node(api.KSeq, "", "", 69),
		},
	}
	g, at, e := read.Parse(s)
	if e != api.OK || at != 0 || !reflect.DeepEqual(g, want) {
		t.Errorf("%v, %d, %v, want %v", g, at, e, want)
	}
}

// Promise 6.2: nodes, and where they stand.
func TestAlts(t *testing.T) {
	for _, x := range []struct {
		s    string
		want []api.Node
	}{
		{"", []api.Node{node(api.KSeq, "", "", 0)}},
		{"  ", []api.Node{node(api.KSeq, "", "", 2)}},
		{"X", []api.Node{node(api.KTok, "X", "", 0)}},
		{" NO", []api.Node{node(api.KTok, "NO", "", 1)}},
		{"a", []api.Node{node(api.KRef, "a", "", 0)}},
		{"X*", []api.Node{node(api.KStar, "", "", 0, 1), node(api.KTok, "X", "", 0)}},
		{"a+", []api.Node{node(api.KPlus, "", "", 0, 1), node(api.KRef, "a", "", 0)}},
		{"X ?", []api.Node{node(api.KOpt, "", "", 0, 1), node(api.KTok, "X", "", 0)}},
		{"l=X", []api.Node{node(api.KTok, "X", "l", 2)}},
		{"l = a?", []api.Node{node(api.KOpt, "", "l", 4, 1), node(api.KRef, "a", "", 4)}},
		{"l=(X)", []api.Node{node(api.KTok, "X", "l", 3)}},
		{"l=((X))", []api.Node{node(api.KTok, "X", "l", 4)}},
		{"(l=X)", []api.Node{node(api.KTok, "X", "l", 3)}},
		{"(X)*", []api.Node{node(api.KStar, "", "", 0, 1), node(api.KTok, "X", "", 1)}},
		{"l=(m=X)*", []api.Node{node(api.KStar, "", "l", 2, 1), node(api.KTok, "X", "m", 5)}},
		{"l=(m=X Y)", []api.Node{node(api.KSeq, "", "l", 3, 1, 2), node(api.KTok, "X", "m", 5), node(api.KTok, "Y", "", 7)}},
		{"l=(X | Y)", []api.Node{node(api.KAlt, "", "l", 3, 1, 2), node(api.KTok, "X", "", 3), node(api.KTok, "Y", "", 7)}},
		{"m=X Y", []api.Node{node(api.KSeq, "", "", 0, 1, 2), node(api.KTok, "X", "m", 2), node(api.KTok, "Y", "", 4)}},
		{"(X Y) a", []api.Node{node(api.KSeq, "", "", 0, 1, 4), node(api.KSeq, "", "", 1, 2, 3), node(api.KTok, "X", "", 1), node(api.KTok, "Y", "", 3), node(api.KRef, "a", "", 6)}},
		{"|", []api.Node{node(api.KAlt, "", "", 0, 1, 2), node(api.KSeq, "", "", 0), node(api.KSeq, "", "", 1)}},
		{"X | | a", []api.Node{node(api.KAlt, "", "", 0, 1, 2, 3), node(api.KTok, "X", "", 0), node(api.KSeq, "", "", 4), node(api.KRef, "a", "", 6)}},
		{"()", []api.Node{node(api.KSeq, "", "", 1)}},
		{"( )+ ", []api.Node{node(api.KPlus, "", "", 0, 1), node(api.KSeq, "", "", 2)}},
		{"(X|Y)a?", []api.Node{node(api.KSeq, "", "", 0, 1, 4), node(api.KAlt, "", "", 1, 2, 3), node(api.KTok, "X", "", 1), node(api.KTok, "Y", "", 3), node(api.KOpt, "", "", 5, 5), node(api.KRef, "a", "", 5)}},
		{"((X?)*)+", []api.Node{node(api.KPlus, "", "", 0, 1), node(api.KStar, "", "", 1, 2), node(api.KOpt, "", "", 2, 3), node(api.KTok, "X", "", 2)}},
		{"a=a a", []api.Node{node(api.KSeq, "", "", 0, 1, 2), node(api.KRef, "a", "a", 2), node(api.KRef, "a", "", 4)}},
	} {
		want := api.Grammar{Name: "g", Look: 1, Toks: []string{"X"}, Rules: []api.Rule{{Name: "a"}}, L: x.want}
		g, at, e := read.Alts(x.s)
		if e != api.OK || at != 0 || !reflect.DeepEqual(g, want) {
			t.Errorf("Alts(%q): %v, %d, %v, want %v", x.s, g, at, e, want)
		}
	}
}

// wrong is a text, the place of the error, and the error.
type wrong struct {
	s  string
	at int
	e  api.Errno
}

func check(t *testing.T, what string, parse func(string) (api.Grammar, int, api.Errno), l []wrong) {
	t.Helper()
	for _, x := range l {
		g, at, e := parse(x.s)
		if e != x.e || at != x.at || !reflect.DeepEqual(g, api.Grammar{}) {
			t.Errorf("%s(%.80q): %v, %d, %v, want %d, %v", what, x.s, g, at, e, x.at, x.e)
		}
	}
}

// Promise 6.1: what is wrong, at each place of the language.
func TestParseWrong(t *testing.T) {
	n := len(head)
	check(t, "Parse", read.Parse, []wrong{
		{"", 0, api.ErrText},
		{" ", 1, api.ErrText},
		{"look", 0, api.ErrText},
		{"grammar", 7, api.ErrText},
		{"grammar G;", 8, api.ErrText},
		{"grammar look;", 8, api.ErrText},
		{"grammar g look", 10, api.ErrText},
		{"grammar g; token", 11, api.ErrText},
		{"grammar g; look x;", 16, api.ErrText},
		{"grammar g; look 0;", 16, api.ErrLook},
		{"grammar g; look 5 $", 18, api.ErrText},
		{"grammar g; look 5 5", 16, api.ErrLook},
		{"grammar g; look 1 token", 18, api.ErrText},
		{"grammar g; look 1; grammar", 19, api.ErrText},
		{"grammar g; look 1; token;", 24, api.ErrText},
		{"grammar g; look 1; token x;", 25, api.ErrText},
		{"grammar g; look 1; token X,;", 27, api.ErrText},
		{"grammar g; look 1; token X Y;", 27, api.ErrText},
		{"grammar g; look 1; token X, Y, X, ;", 31, api.ErrTwice},
		{"grammar g; look 1; token X", 26, api.ErrText},
		{head, 0, api.ErrFull},
		{head + "X", n, api.ErrText},
		{head + ";", n, api.ErrText},
		{head + "a", n + 1, api.ErrText},
		{head + "a;", n + 1, api.ErrText},
		{head + "a sync:", n + 6, api.ErrText},
		{head + "a sync ():", n + 8, api.ErrText},
		{head + "a sync (x):", n + 8, api.ErrText},
		{head + "a sync (X Y):", n + 10, api.ErrText},
		{head + "a sync (X,):", n + 10, api.ErrText},
		{head + "a sync (X", n + 9, api.ErrText},
		{head + "a sync (X) sync (X):;", n + 11, api.ErrText},
		{head + "a: X", n + 4, api.ErrText},
		{head + "a: X; a: =", n + 6, api.ErrTwice},
		{head + "a: X; b: Y; a", n + 12, api.ErrTwice},
		{head + "a: X; look", n + 6, api.ErrText},
		{head + "a: look;", n + 3, api.ErrText},
		{head + "a: 1;", n + 3, api.ErrText},
		{head + "a: X,;", n + 4, api.ErrText},
		{head + "a: X;;", n + 5, api.ErrText},
		{head + "a: X??;", n + 5, api.ErrText},
		{head + "a: *;", n + 3, api.ErrText},
		{head + "a: (X;", n + 5, api.ErrText},
		{head + "a: X);", n + 4, api.ErrText},
		{head + "a: l=;", n + 5, api.ErrText},
		{head + "a: l=m=X;", n + 6, api.ErrText},
		{head + "a: X=Y;", n + 4, api.ErrText},
		{head + "a: l=(m=X);", n + 3, api.ErrTwice},
		{head + "a: l=(m=X) =;", n + 3, api.ErrTwice},
		{head + "a: l=(m=X;", n + 9, api.ErrText},
		{head + "a: l=(m=X)?;$", n + 12, api.ErrText},
		{head + "a: l=(m=X)? n=((o=Y)) =;", n + 12, api.ErrTwice},
		{head + "a: l=((m=X Y)?) k=(l=(X | Y)) ;", n + 16, api.ErrTwice},
		{head + "a: X; a: X; \x00", n + 12, api.ErrText},
		{head + "a: 007", n + 3, api.ErrText},
		{strings.Repeat("$", api.MaxText+1), 0, api.ErrLong},
	})
}

// Promise 6.2: what is wrong.
func TestAltsWrong(t *testing.T) {
	check(t, "Alts", read.Alts, []wrong{
		{"X;", 1, api.ErrText},
		{"X )", 2, api.ErrText},
		{"(", 1, api.ErrText},
		{"(X", 2, api.ErrText},
		{"X = Y", 2, api.ErrText},
		{"l=", 2, api.ErrText},
		{"l=X? l=(l=X) )", 5, api.ErrTwice},
		{"X $", 2, api.ErrText},
		{"grammar", 0, api.ErrText},
		{"?", 0, api.ErrText},
		{"X | *", 4, api.ErrText},
		{strings.Repeat("X ", api.MaxNodes), 0, api.ErrFull},
		{strings.Repeat("(", 40) + "X" + strings.Repeat("*)", 40), 0, api.ErrDeep},
		{strings.Repeat("(", 41) + "$", 41, api.ErrText},
		{strings.Repeat("(", 41) + "=", 40, api.ErrDeep},
		{"X | (" + strings.Repeat("(", 40) + "X" + strings.Repeat(")", 41), 44, api.ErrDeep},
		{"l=" + strings.Repeat("(", 39) + "()()(())" + strings.Repeat(")", 39), 46, api.ErrDeep},
		{strings.Repeat(" ", api.MaxText+1), 0, api.ErrLong},
	})
	for _, s := range []string{
		strings.Repeat("(", 40) + "X" + strings.Repeat(")", 40),
		strings.Repeat("()", 50),
		strings.Repeat("(", 40) + strings.Repeat(")", 40) + strings.Repeat("(", 40) + strings.Repeat(")", 40),
		strings.Repeat("X ", api.MaxNodes-1),
		strings.Repeat("(", 39) + "X" + strings.Repeat("*)", 39),
	} {
		if _, at, e := read.Alts(s); e != api.OK || at != 0 {
			t.Errorf("Alts(%.50q): %d, %v", s, at, e)
		}
	}
}

// Promise 6.1: what layer 5 refuses stands at 0.
func TestLimits(t *testing.T) {
	var toks, rules []string
	for i := range 61 {
		toks = append(toks, fmt.Sprint("T", i))
	}
	for i := range 41 {
		rules = append(rules, fmt.Sprint("r", i, ": ;"))
	}
	file := func(toks, rules []string) string {
		return "grammar g; look 1; token " + strings.Join(toks, ", ") + "; " + strings.Join(rules, " ")
	}
	sync := func(n int) string {
		return head + "a sync (X" + strings.Repeat(", X", n-1) + "): ;"
	}
	check(t, "Parse", read.Parse, []wrong{
		{file(toks, rules[:1]), 0, api.ErrFull},
		{file(toks[:1], rules), 0, api.ErrFull},
		{file(toks[:1], append(rules, "b")), len(file(toks[:1], rules)) + 2, api.ErrText},
		{sync(61), 0, api.ErrName},
	})
	for _, s := range []string{file(toks[:60], rules[:40]), sync(60)} {
		if _, at, e := read.Parse(s); e != api.OK || at != 0 {
			t.Errorf("Parse(%.50q): %d, %v", s, at, e)
		}
	}
}

// Promise 6.3: what is read may be, is in order, and stays with other blanks between.
func TestBlanks(t *testing.T) {
	pieces := []string{"X", "a", "l=", "(", ")", "|", "?", "*", "+", ""}
	for i := range 100000 {
		l := []string{pieces[i%10], pieces[i/10%10], pieces[i/100%10], pieces[i/1000%10], pieces[i/10000]}
		g, at, e := read.Alts(strings.Join(l, " "))
		h, bt, f := read.Alts(strings.Join(l, "\t#X\n\r"))
		if e != f || (at == 0) != (bt == 0) {
			t.Fatalf("%q: %d, %v, with other blanks %d, %v", l, at, e, bt, f)
		}
		if e != api.OK {
			continue
		}
		n, e := gram.Norm(g)
		if e != api.OK || !reflect.DeepEqual(n, g) {
			t.Fatalf("%q: %v, in order %v", l, e, n)
		}
		if !gram.Same(g, h) {
			t.Fatalf("%q: %v, with other blanks %v", l, g, h)
		}
	}
}
