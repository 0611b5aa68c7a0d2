package types_test

import (
	"slices"
	"strings"
	"testing"

	"gramarye/api"
	"gramarye/parse"
	"gramarye/scope"
	"gramarye/types"
)

const things = "type s struct {\nf int\ng *s\nb bool\ne *e\n}\ntype e struct {\nf *s\n}\nfunc add(x int, y *s) *s {\nreturn y\n}\nfunc none() {\n}\nfunc truth() bool {\nreturn true\n}\n"

// read reads a program whose first function has some parameters and these lines.
func read(t *testing.T, result, body string) api.Code {
	t.Helper()
	c, at, e := parse.Parse("package p\nfunc f(i int, b bool, p *s, q *e) " + result + " {\n" + body + "}\n" + things)
	if e != api.OK {
		t.Fatalf("%q: %d, %v", body, at, e)
	}
	return c
}

// Promise 32.1: expressions; those that have a type, and those that have none.
func TestExpr(t *testing.T) {
	for s, want := range map[string]string{
		"1": "int", "true": "bool", "false": "bool", "i": "int", "b": "bool", "p": "*s", "q": "*e", "new(s)": "*s", "new(e)": "*e",
		"!b": "bool", "!true": "bool", "-i": "int", "--1": "int", "!!b": "bool",
		"b || true": "bool", "b && b": "bool", "1 == i": "bool", "b != true": "bool", "p == p": "bool", "p == nil": "bool", "nil != q": "bool",
		"i < 1": "bool", "i <= i": "bool", "i + 1": "int", "i - 1": "int", "i * 1": "int",
		"p.f": "int", "p.g": "*s", "p.b": "bool", "p.e.f.g.f": "int", "new(s).e": "*e", "add(1, p).g": "*s",
		"add(i, nil)": "*s", "add(p.f, new(s))": "*s", "truth()": "bool", "look(1)": "int", "look(look(i) + 1)": "int", "truth() == b": "bool", "i < 1 == b": "bool",
	} {
		c := read(t, "", "x := "+s+"\ny := x\n")
		if at, e := types.Check(c); at != -1 || e != api.OK {
			t.Errorf("%q: %d, %v", s, at, e)
		}
		l, e := types.Of(c)
		if e != api.OK || len(l) != len(c.L) || l[2] != want || l[0] != "" || l[1] != "" {
			t.Errorf("%q: %q, %v, want %s", s, l, e, want)
			continue
		}
		if last := slices.IndexFunc(c.L, func(x api.Cnode) bool { return x.Kind == api.XVar && x.Name == "x" }); l[last] != want {
			t.Errorf("%q: then x is %s", s, l[last])
		}
	}
	for s, at := range map[string]int{
		"nil": 1, "none()": 1, "!i": 2, "!p": 2, "!nil": 2, "-b": 2, "-p": 2, "!none()": 2,
		"b || i": 2, "i || b": 2, "b && p": 2, "nil && b": 2, "i == b": 2, "p == q": 2, "nil == nil": 2, "nil != i": 2, "b != nil": 2, "none() == none()": 2, "p != i": 2,
		"i < b": 2, "b <= b": 2, "p < p": 2, "i + b": 2, "b - i": 2, "p * i": 2, "nil + nil": 2, "1 + true": 2,
		"i.f": 2, "b.f": 2, "nil.f": 2, "none().f": 2, "p.x": 2, "q.g": 2, "q.f.e.b": 2, "p.f.g": 2,
		"add(1)": 2, "add()": 2, "add(1, p, p)": 2, "add(b, p)": 2, "add(1, q)": 2, "add(nil, p)": 2, "add(1, none())": 2, "truth(1)": 2, "none(1)": 2,
		"look()": 2, "look(1, 1)": 2, "look(b)": 2, "look(nil)": 2, "look(none())": 2,
		"add(1 + b, p.x)": 3, "(1 + b) * (2 + b)": 3, "(i + 1) * (2 + b)": 6, "add(i, p.x)": 4, "-(-b)": 3, "add(1, add(2, add(b, p)))": 6,
	} {
		c := read(t, "", "x := "+s+"\n")
		if got, e := types.Check(c); got != at || e != api.ErrType {
			t.Errorf("%q: %d, %v, want %d", s, got, e, at)
		}
		if l, e := types.Of(c); len(l) != 0 || e != api.ErrType {
			t.Errorf("%q: %v, %v", s, l, e)
		}
	}
}

// Promise 32.1: statements, and functions.
func TestStatements(t *testing.T) {
	for _, x := range []struct {
		result, body string
		at           int
	}{
		{"", "", -1}, {"", "return\n", -1}, {"", "return 1\n", 1}, {"", "return none()\n", 1}, {"int", "return\n", 1}, {"int", "return 1\n", -1}, {"int", "return b\n", 1}, {"int", "return nil\n", 1}, {"*s", "return nil\n", -1}, {"*s", "return p\n", -1}, {"*s", "return q\n", 1}, {"bool", "return i < 1\n", -1},
		{"int", "", 0}, {"int", "none()\n", 0}, {"int", "if b {\nreturn 1\n} else {\nreturn 2\n}\n", 0}, {"int", "for true {\nreturn 1\n}\n", 0}, {"int", "return 1\nnone()\n", 0}, {"int", "return 1\nreturn 2\n", -1}, {"int", "return 1\nreturn b\n", 3}, {"int", "x := b + 1\n", 2},
		{"", "i = 1\n", -1}, {"", "i = b\n", 1}, {"", "b = i\n", 1}, {"", "p = nil\n", -1}, {"", "p = q\n", 1}, {"", "i = nil\n", 1}, {"", "i = none()\n", 1}, {"", "p.f = 1\n", -1}, {"", "p.f = p\n", 1}, {"", "p.g = nil\n", -1}, {"", "p.g.e = new(e)\n", -1}, {"", "p.x = 1\n", 2}, {"", "q.f = q\n", 1},
		{"", "if i {\n}\n", 1}, {"", "if b {\n} else if p {\n}\n", 4}, {"", "if none() {\n}\n", 1}, {"", "if nil {\ni = b\n}\n", 4}, {"", "if b {\ni = b\n}\n", 4}, {"", "if b {\n} else {\nb = 1\n}\n", 5},
		{"", "for 1 {\n}\n", 1}, {"", "for b {\n}\n", -1}, {"", "for b {\nfor p {\n}\n}\n", 4}, {"", "switch b {\n}\n", 1}, {"", "switch i {\ncase 1:\n}\n", -1}, {"", "switch p {\ncase 1:\ni = b\n}\n", 4}, {"", "switch i {\ncase 1:\nreturn 1\ndefault:\nreturn 2\n}\n", 4}, {"", "switch i {\ncase 1:\nreturn 1\n}\n", 4},
		{"", "none()\nadd(1, p)\nlook(1)\n", -1}, {"", "none(1)\n", 2}, {"", "look()\n", 2},
		{"", "if b {\nx := 1\ni = x\n}\nif b {\nx := b\nb = x\n}\nx := p\np = x\n", -1}, {"", "if b {\nx := 1\n} else {\nx := b\ni = x\n}\n", 9}, {"", "switch i {\ncase 1:\nx := b\ncase 2:\nx := 1\nb = x\n}\n", 9}, {"", "for b {\nx := 1\n}\nx := b\ni = x\n", 8},
		{"", "}\nfunc k() int {\n", 1}, {"", "}\nfunc k() int {\nreturn b()\n}\nfunc b() bool {\nreturn i()\n}\nfunc i() int {\nreturn 1\n", 2}, {"int", "i = 1\n}\nfunc k() {\ni := true + 1\n", 0},
	} {
		c := read(t, x.result, x.body)
		at, e := types.Check(c)
		if at != x.at || (e == api.OK) != (at < 0) || e != api.OK && e != api.ErrType {
			t.Errorf("%q %q: %d, %v, want %d", x.result, x.body, at, e, x.at)
		}
	}
}

// Promise 32.1: nodes in another order; the place is that of the node that is first in order.
func TestOrder(t *testing.T) {
	d := read(t, "", "b = -b\ni = 1 + b\n")
	d.L[0].L = []int{5, 1}
	if at, e := types.Check(d); d.L[5].Kind != api.SSet || at != 7 || e != api.ErrType {
		t.Errorf("%d, %v, %v", at, e, d.L)
	}
	d.L[7].B, d.L[9] = 9, api.Cnode{Kind: api.XInt, A: -1, B: -1, C: -1}
	if at, e := types.Check(d); at != 3 || e != api.ErrType {
		t.Errorf("%d, %v", at, e)
	}
}

// Promise 32.1: what is not well named, or may not be.
func TestWrong(t *testing.T) {
	lost := read(t, "", "i = 1 + b\nx = 1\n")
	global := read(t, "", "x = 1\n")
	global.Name = "if"
	form := read(t, "", "x = 1\n")
	form.L[0].N = 1
	for i, c := range []api.Code{lost, global, form} {
		at, e := scope.Check(c)
		got, f := types.Check(c)
		l, g := types.Of(c)
		if e == api.OK || got != at || f != e || g != e || len(l) != 0 {
			t.Errorf("%d: %d, %v, %v, want %d, %v", i, got, f, g, at, e)
		}
	}
	if at, e := types.Check(api.Code{Name: "p"}); at != -1 || e != api.OK {
		t.Errorf("%d, %v", at, e)
	}
}

// Promise 32.2.
func TestStands(t *testing.T) {
	all := []string{"int", "bool", "nil", "", "*s", "*t", "*", "s", "*9", "**s", "*int", "*" + strings.Repeat("x", 41), "none"}
	for _, from := range all {
		for _, to := range all {
			points := to == "*s" || to == "*t"
			want := from == to && (points || to == "int" || to == "bool") || from == "nil" && points
			if got := types.Stands(from, to); got != want {
				t.Errorf("Stands(%q, %q): %v", from, to, got)
			}
		}
	}
}

// Promise 32.3: each expression has a type, but for an SCall's call of a function without a Result.
func TestEach(t *testing.T) {
	c := read(t, "*s", "none()\nx := add(look(-i), p.g)\nif !b && x == nil {\ny := new(s)\nx = y\n}\nswitch i * 2 {\ncase 1:\nnone()\n}\nfor truth() != true {\nx.g.f = 5\nadd(1, x)\n}\nreturn x\n")
	l, e := types.Of(c)
	if e != api.OK {
		t.Fatal(e)
	}
	called := map[int]bool{}
	for _, x := range c.L {
		if x.Kind == api.SCall {
			called[x.A] = true
		}
	}
	n := 0
	for i, x := range c.L {
		switch {
		case x.Kind > api.XNew && l[i] != "", x.Kind <= api.XNew && l[i] == "" && !(called[i] && x.Name == "none"):
			t.Errorf("node %d of kind %d: %q", i, x.Kind, l[i])
		case x.Kind <= api.XNew && l[i] == "":
			n++
		}
	}
	if n != 2 {
		t.Errorf("%d without a type", n)
	}
}
