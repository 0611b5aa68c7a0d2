package check_test

import (
	"fmt"
	"slices"
	"strings"
	"testing"

	"gramarye/api"
	"gramarye/bind"
	"gramarye/check"
	"gramarye/emit"
	"gramarye/parse"
	"gramarye/print"
	"gramarye/read"
	"gramarye/run"
	"gramarye/tree"
	"gramarye/walk"
)

// bound reads and binds a grammar of the tokens A to D.
func bound(t *testing.T, look int, rules string) api.Grammar {
	t.Helper()
	g, at, e := read.Parse(fmt.Sprintf("grammar g; look %d; token A, B, C, D; %s", look, rules))
	if e != api.OK {
		t.Fatalf("%q: %d, %v", rules, at, e)
	}
	g, at, e = bind.Bind(g)
	if e != api.OK {
		t.Fatalf("%q: %d, %v", rules, at, e)
	}
	return g
}

const rules = "a: l=A (m=b | C)* D; b sync (A): B (k=A)?;"

// Promises 39.1 to 39.3: a grammar's own text, and others of the same program.
func TestText(t *testing.T) {
	g := bound(t, 1, rules)
	s, e := check.Text(g)
	c, f := emit.Code(g)
	want, h := print.Print(c)
	if e != api.OK || f != api.OK || h != api.OK || s != want {
		t.Fatalf("%v, %v, %v, %q", e, f, h, s)
	}
	same := []string{
		s,
		strings.ReplaceAll(s, "\n", "\n\n \t\r\n"),
		strings.ReplaceAll(s, "\t", ""),
		strings.ReplaceAll(s, " == ", "=="),
		strings.ReplaceAll(s, "return c\n", "return ((c))\n"),
		strings.ReplaceAll(s, "to = to + 1", "(to)=(to+(1))"),
		strings.ReplaceAll(s, "c := pick", "(c) := pick"),
		strings.TrimSuffix(s, "\n"),
	}
	for i, x := range same {
		if at, e := check.Check(g, x); at != 0 || e != api.OK || !check.Valid(g, x) || i > 0 && x == s {
			t.Errorf("%d: %d, %v", i, at, e)
		}
		p, _, _ := parse.Parse(x)
		for n := range 30 {
			var w []int
			for m := n * 37; m > 0; m /= 4 {
				w = append(w, m%4+1)
			}
			got, diags, _, e := run.Program(p, emit.Labels(g), w, 1<<40)
			if want, wrong, _ := walk.Walk(g, w); e != api.OK || !tree.Same(got, want) || !slices.Equal(diags, wrong) {
				t.Fatalf("%d, %v: %v", i, w, e)
			}
		}
	}
}

// Promise 39.2: texts that are not the grammar's program.
func TestCheck(t *testing.T) {
	g := bound(t, 1, rules)
	s, _ := check.Text(g)
	other, _ := check.Text(bound(t, 1, "a: A (m=b | C)* D; b: B (k=A)?;"))
	n := strings.Index(s, "return c\n")
	for i, x := range []struct {
		s  string
		at int
		e  api.Errno
	}{
		{other, 0, api.ErrRule},
		{"package parser_g\n", 0, api.ErrRule},
		{"package p\n", 0, api.ErrRule},
		{strings.Replace(s, "parser_g", "parser_h", 1), 0, api.ErrRule},
		{strings.Replace(s, "to + 1", "1 + to", 1), 0, api.ErrRule},
		{strings.Replace(s, "return 0\n", "return 1\n", 1), 0, api.ErrRule},
		{strings.Replace(s, "case 0,", "case 9, 0,", 1), 0, api.ErrRule},
		{strings.Replace(s, "\tlast *tree\n", "\tnext *tree\n", 1), 0, api.ErrScope},
		{s + "func f() {\n}\n", 0, api.ErrRule},
		{s + "type t struct {\n}\n", 0, api.ErrRule},
		{strings.Replace(s, "match(s, up, 1, 1)", "match(s, up, 1, 2)", 1), 0, api.ErrRule},
		{"", 0, api.ErrText},
		{s[:n], n, api.ErrText},
		{strings.Replace(s, "return c\n", "return c $\n", 1), n + 9, api.ErrText},
		{strings.Replace(s, "return c\n", "return c c\n", 1), n + 9, api.ErrText},
		{strings.Replace(s, "return c\n", "return "+strings.Repeat("(", 60), 1), n + 7 + 59, api.ErrDeep},
		{strings.Replace(s, "return c\n", "return "+strings.Repeat("f(", 60)+strings.Repeat(")", 60)+"\n", 1), 0, api.ErrDeep},
		{strings.Repeat("\n", 1000001), 0, api.ErrLong},
		{"package p\nfunc f() {\n" + strings.Repeat("return\n", 20000) + "}\n", 0, api.ErrFull},
		{strings.Replace(s, "return c\n", "return d\n", 1), 0, api.ErrScope},
		{strings.Replace(s, "return c\n", "return true\n", 1), 0, api.ErrType},
		{strings.Replace(s, "return c\n", "c = 1\n", 1), 0, api.ErrType},
	} {
		if at, e := check.Check(g, x.s); at != x.at || e != x.e || check.Valid(g, x.s) {
			t.Errorf("%d: %d, %v, want %d, %v", i, at, e, x.at, x.e)
		}
	}
}

// Promises 39.1 and 39.2: errors of grammars, ahead of those of texts.
func TestWrong(t *testing.T) {
	lost := bound(t, 1, "a: A b; b: B;")
	lost.L[1].N = 2
	for i, x := range []struct {
		g    api.Grammar
		want api.Errno
	}{
		{api.Grammar{}, api.ErrFull}, {lost, api.ErrName}, {bound(t, 1, "a: A a;"), api.ErrDead}, {bound(t, 1, "a: a A | A;"), api.ErrLeft}, {bound(t, 1, "a: A | A B;"), api.ErrClash},
		{bound(t, 1, "a: b b b b b b b b b; b: c c c c c c; c: "+strings.Repeat("A ", 40)+";"), api.ErrLimit},
	} {
		s, e := check.Text(x.g)
		at, f := check.Check(x.g, "$")
		if e != x.want || f != x.want || s != "" || at != 0 || check.Valid(x.g, "$") {
			t.Errorf("%d: %v, %v, want %v", i, e, f, x.want)
		}
	}
}
