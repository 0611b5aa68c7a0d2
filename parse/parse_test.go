package parse_test

import (
	"reflect"
	"slices"
	"strings"
	"testing"

	"gramarye/api"
	"gramarye/code"
	"gramarye/parse"
	"gramarye/print"
)

// frame is the text of a function of some lines.
func frame(body string) string { return "package p\nfunc f() {\n" + body + "}\n" }

func leaf(kind int, f func(x *api.Cnode)) api.Cnode {
	x := api.Cnode{Kind: kind, A: -1, B: -1, C: -1}
	if f != nil {
		f(&x)
	}
	return x
}

func block(l ...int) api.Cnode { return leaf(api.SBlock, func(x *api.Cnode) { x.L = l }) }

func over(kind int, name string, abc ...int) api.Cnode {
	return leaf(kind, func(x *api.Cnode) {
		x.Name = name
		for i, k := range abc {
			*[]*int{&x.A, &x.B, &x.C}[i] = k
		}
	})
}

func num(kind, n int) api.Cnode { return leaf(kind, func(x *api.Cnode) { x.N = n }) }

// Promise 30.1: nodes of a text that has all of them.
func TestParse(t *testing.T) {
	s := "\npackage p \n\n type s struct {\n f int\n\n g *s\n h bool\n}\n type e struct {\n}\nfunc f(x int, y *s) *s {\n" +
		"(v) := -x * 2\ny.f = new(s)\nif !true {\n} else if nil == y {\nreturn\n} else {\nf(1, x)\n}\nfor false {\n}\n" +
		"switch look(x) {\ncase 1, 2:\nx = 3\ncase 0:\ndefault:\nreturn x\n}\nswitch x {\n}\nlook()\n}\n\nfunc g() {\n}"
	want := api.Code{
		Name: "p",
		Structs: []api.Struct{
			{Name: "s", L: []api.Field{{Name: "f", Type: "int"}, {Name: "g", Type: "*s"}, {Name: "h", Type: "bool"}}}, {Name: "e"},
		},
		Funcs: []api.Func{{Name: "f", Params: []api.Field{{Name: "x", Type: "int"}, {Name: "y", Type: "*s"}}, Result: "*s"}, {Name: "g", Body: 47}},
		L: []api.Cnode{
			0: block(1, 6, 10, 25, 28, 41, 43+2),
			1: over(api.SVar, "v", 2),
			2: leaf(api.XBin, func(x *api.Cnode) { x.N, x.A, x.B = api.OMul, 3, 5 }),
			3: over(api.XNeg, "", 4), 4: over(api.XVar, "x"), 5: num(api.XInt, 2),
			6: over(api.SSet, "", 7, 9), 7: over(api.XField, "f", 8), 8: over(api.XVar, "y"), 9: over(api.XNew, "s"),
			10: over(api.SIf, "", 11, 13, 14), 11: over(api.XNot, "", 12), 12: num(api.XBool, 1), 13: block(),
			14: over(api.SIf, "", 15, 18, 20),
			15: leaf(api.XBin, func(x *api.Cnode) { x.N, x.A, x.B = api.OSame, 16, 17 }), 16: over(api.XNil, ""), 17: over(api.XVar, "y"),
			18: block(19), 19: over(api.SReturn, ""),
			20: block(21), 21: over(api.SCall, "", 22), 22: leaf(api.XCall, func(x *api.Cnode) { x.Name, x.L = "f", []int{23, 24} }), 23: num(api.XInt, 1), 24: over(api.XVar, "x"),
			25: over(api.SFor, "", 26, 27), 26: num(api.XBool, 0), 27: block(),
			28: leaf(api.SSwitch, func(x *api.Cnode) {
				x.A, x.B, x.Cases = 29, 31, []api.Case{{L: []int{1, 2}, Body: 34}, {L: []int{0}, Body: 38}}
			}),
			29: leaf(api.XCall, func(x *api.Cnode) { x.Name, x.L = "look", []int{30} }), 30: over(api.XVar, "x"),
			31: block(32), 32: over(api.SReturn, "", 33), 33: over(api.XVar, "x"),
			34: block(35), 35: over(api.SSet, "", 36, 37), 36: over(api.XVar, "x"), 37: num(api.XInt, 3),
			38: block(),
			39: over(api.SSwitch, "", 40), 40: over(api.XVar, "x"),
			41: over(api.SCall, "", 42), 42: over(api.XCall, "look"),
			43: block(),
		},
	}
	want.L[0].L = []int{1, 6, 10, 25, 28, 39, 41}
	want.Funcs[1].Body = 43
	got, at, e := parse.Parse(s)
	if e != api.OK || at != 0 || !code.Same(got, want) || !reflect.DeepEqual(got, order(want)) {
		t.Errorf("%d, %v\n%v\nwant\n%v", at, e, got, want)
	}
}

// order is c in order, lists without members as none.
func order(c api.Code) api.Code {
	c, _ = code.Norm(c)
	return c
}

// Promise 30.1: how operators go together; told by the text that is printed, with all brackets that count.
func TestExpr(t *testing.T) {
	for _, x := range []struct{ s, want string }{
		{"1 + 2 * 3", "1 + 2 * 3"}, {"(1 + 2) * 3", "(1 + 2) * 3"}, {"(1) + ((2))", "1 + 2"},
		{"a - b - c", "a - b - c"}, {"a - (b - c)", "a - (b - c)"}, {"(a - b) - c", "a - b - c"},
		{"a || b && c", "a || b && c"}, {"(a || b) && c", "(a || b) && c"}, {"a || (b && c)", "a || b && c"},
		{"a < b == c", "a < b == c"}, {"a == (b <= c)", "a == (b <= c)"}, {"a != b < c", "a != b < c"}, {"(a != b) < c", "a != b < c"},
		{"a + b < c * d && e == f || g", "a + b < c * d && e == f || g"},
		{"-a.b.c", "-a.b.c"}, {"(-a).b", "(-a).b"}, {"!-!a", "!-!a"}, {"!(a)", "!a"}, {"-(a * b)", "-(a * b)"}, {"- - 1", "--1"}, {"a - -b", "a - -b"}, {"a*-b", "a * -b"},
		{"f()", "f()"}, {"f(a, f(), look(b))", "f(a, f(), look(b))"}, {"f(a).b", "f(a).b"}, {"new(s).b", "new(s).b"}, {"(f)", "f"}, {"5.a", "5.a"}, {"nil.a", "nil.a"}, {"(a || b).c", "(a || b).c"},
		{"true == false", "true == false"}, {"a * b * c", "a * b * c"}, {"a * (b * c)", "a * (b * c)"}, {"a && b && c", "a && b && c"},
	} {
		c, at, e := parse.Parse(frame("x := " + x.s + "\n"))
		if e != api.OK {
			t.Errorf("%q: %d, %v", x.s, at, e)
			continue
		}
		if got, _ := print.Expr(c, 2); got != x.want {
			t.Errorf("%q is told as %q", x.s, got)
		}
	}
}

// Promise 30.1: what is wrong, at each place of the language.
func TestWrong(t *testing.T) {
	type w struct {
		s  string
		at int
		e  api.Errno
	}
	l := []w{
		{"", 0, api.ErrText}, {"p", 0, api.ErrText}, {"package", 7, api.ErrText}, {"package if", 8, api.ErrText}, {"package p p", 10, api.ErrText}, {"package\np", 7, api.ErrText},
		{"package p\n x", 11, api.ErrText}, {"package p\ntype", 14, api.ErrText}, {"package p\ntype s {", 17, api.ErrText}, {"package p\ntype s struct {}", 25, api.ErrText}, {"package p\ntype s struct {\nf\n}", 27, api.ErrText},
		{"package p\ntype s struct {\nf s\n}", 28, api.ErrText}, {"package p\ntype s struct {\nf **s\n}", 29, api.ErrText}, {"package p\ntype s struct {\nf int}", 31, api.ErrText}, {"package p\ntype s struct {\nf int\n", 32, api.ErrText},
		{"package p\ntype s struct {\n} func", 28, api.ErrText}, {"package p\nfunc () {\n}", 15, api.ErrText}, {"package p\nfunc f {\n}", 17, api.ErrText}, {"package p\nfunc f(x) {\n}", 18, api.ErrText}, {"package p\nfunc f(x int,) {\n}", 23, api.ErrText},
		{"package p\nfunc f(x int y int) {\n}", 23, api.ErrText}, {"package p\nfunc f() s {\n}", 19, api.ErrText}, {"package p\nfunc f() int int {\n}", 23, api.ErrText}, {"package p\nfunc f() {}", 20, api.ErrText}, {"package p\nfunc f()\n{\n}", 18, api.ErrText},
		{"package p\nfunc f() {\n} func", 23, api.ErrText}, {"package p\nfunc f() {\n", 21, api.ErrText}, {"package p\nfunc look() {\n}", 15, api.ErrText},
		{"package p\nfunc f() {\nx := 1}", 27, api.ErrText}, {"package p\n$ if", 10, api.ErrText}, {strings.Repeat(" ", 1000001), 0, api.ErrLong}, {"package p\nfunc f( $", 18, api.ErrText},
	}
	for _, x := range []struct {
		line string
		at   int
	}{
		{"x\n", 1}, {"x + 1\n", 5}, {"x = \n", 4}, {"x := \n", 5}, {"1 = x\n", 2}, {"f() = x\n", 4}, {"f() := x\n", 4}, {"x.y := 1\n", 4}, {"x + y = 1\n", 6}, {"x + y := 1\n", 6}, {"-x = 1\n", 3}, {"new(s)\n", 6}, {"x.y\n", 3},
		{"x == y == \n", 10}, {"f(x,)\n", 4}, {"f(,)\n", 2}, {"f(x y)\n", 4}, {"x.f()\n", 3}, {"f()()\n", 3}, {"(f)()\n", 3}, {"x = look\n", 8}, {"x = new\n", 7}, {"x = new()\n", 8}, {"x = new(s.t)\n", 9}, {"x = new(look)\n", 8}, {"x = y.1\n", 6}, {"x = y.\n", 6}, {"x = (y\n", 6}, {"x = )\n", 4}, {"x = !\n", 5}, {"x = + y\n", 4},
		{"if x {\n}\nelse {\n}\n", 9}, {"if {\n}\n", 3}, {"if x\n{\n}\n", 4}, {"if x {}\n", 6}, {"if x {\n} else y\n", 14}, {"if x {\n} {\n}\n", 9}, {"for {\n}\n", 4}, {"for x\n", 5}, {"return return\n", 7}, {"return x y\n", 9}, {"return = 1\n", 7},
		{"switch {\n}\n", 7}, {"switch x {}\n", 10}, {"switch x {\ncase x:\n}\n", 16}, {"switch x {\ncase -1:\n}\n", 16}, {"switch x {\ncase 1,:\n}\n", 18}, {"switch x {\ncase 1 2:\n}\n", 18}, {"switch x {\ncase 1: y = 1\n}\n", 19}, {"switch x {\ncase:\n}\n", 15}, {"switch x {\ndefault:\ncase 1:\n}\n", 20}, {"switch x {\ndefault:\ndefault:\n}\n", 20}, {"switch x {\ny = 1\n}\n", 11},
		{"{\n}\n", 0}, {"else\n", 0}, {"case 1:\n", 0}, {"x := 1 y := 2\n", 7}, {"func g() {\n}\n", 0}, {"type\n", 0}, {"package p\n", 0}, {"((x) := 1\n", 5}, {"x := y := 1\n", 7}, {"x = y = 1\n", 6},
		{"x || y = 1\n", 7}, {"x || y\n", 6}, {"x && f()\n", 8}, {"x := if\n", 5}, {"x = struct\n", 4}, {"f(case)\n", 2}, {"x = y + int\n", 8}, {"x = !func\n", 5},
	} {
		l = append(l, w{frame(x.line), len("package p\nfunc f() {\n") + x.at, api.ErrText})
	}
	for _, x := range l {
		got, at, e := parse.Parse(x.s)
		if e != x.e || at != x.at || !reflect.DeepEqual(got, api.Code{}) {
			t.Errorf("%.80q: %d, %v, want %d, %v", x.s, at, e, x.at, x.e)
		}
	}
	for _, line := range []string{"(x) := 1\n", "((x)) := 1\n", "(x) = 1\n", "(x.y) = 1\n", "(f())\n", "f().x = 1\n", "return (1)\n", "x := (y)\n"} {
		if _, at, e := parse.Parse(frame(line)); e != api.OK {
			t.Errorf("%q: %d, %v", line, at, e)
		}
	}
}

// Promise 30.1: what is nested too deep, by each thing that counts; and what is refused at the end.
func TestDeep(t *testing.T) {
	head := len("package p\nfunc f() {\nx := ")
	rep := strings.Repeat
	for i, x := range []struct {
		s  string
		at int
		e  api.Errno
	}{
		{frame("x := " + rep("(", 59) + "1" + rep(")", 59) + "\n"), 0, api.OK},
		{frame("x := " + rep("(", 60) + "1" + rep(")", 60) + "\n"), head + 59, api.ErrDeep},
		{frame("x := " + rep("(", 60) + "$"), head + 60, api.ErrText},
		{frame("x := " + rep("!", 57) + "y\n"), 0, api.OK},
		{frame("x := " + rep("!", 58) + "y\n"), 0, api.ErrDeep},
		{frame("x := " + rep("-", 60) + "y\n"), head + 59, api.ErrDeep},
		{frame("x := " + rep("-(", 30) + "y"), head + 59, api.ErrDeep},
		{frame("x := " + rep("(", 59) + "1 - 1" + rep(")", 59) + " - " + rep("(", 59) + "1" + rep(")", 59) + "\n"), 0, api.OK},
		{frame("x := " + rep("(", 59) + "f()" + rep(")", 59) + "\n"), 0, api.OK},
		{frame("x := " + rep("(", 59) + "new(s)" + rep(")", 59) + "\n"), 0, api.OK},
		{frame("x := " + rep("f(", 56) + "1" + rep(")", 56) + "\n"), 0, api.OK},
		{frame("x := " + rep("f(", 100) + "1" + rep(")", 100) + "\n"), 0, api.ErrDeep},
		{frame("x := " + rep("f(", 100) + "1" + rep(")", 99) + "\n"), head + 300, api.ErrText},
		{frame(rep("if x {\n", 29) + rep("}\n", 29)), 0, api.OK},
		{frame(rep("if x {\n", 59) + rep("}\n", 59)), 0, api.ErrDeep},
		{frame(rep("if x {\n", 60) + rep("}\n", 60)), head - 5 + 59*7 + 5, api.ErrDeep},
		{frame(rep("switch x {\ncase 1:\n", 60)), head - 5 + 59*19 + 9, api.ErrDeep},
		{frame(rep("for x {\n", 60)), head - 5 + 59*8 + 6, api.ErrDeep},
		{frame("if x {\n}" + rep(" else if x {\n}", 56) + "\n"), 0, api.OK},
		{frame("if x {\n}" + rep(" else if x {\n}", 200) + "\n"), 0, api.ErrDeep},
		{frame("x := y" + rep(" + y", 55) + "\n"), 0, api.OK},
		{frame("x := y" + rep(" + y", 70) + "\n"), 0, api.ErrDeep},
		{frame("x := y" + rep(".z", 70) + "\n"), 0, api.ErrDeep},
		{frame("x := y" + rep(".z", 70) + ".\n"), head + 142, api.ErrText},
		{frame(rep("return\n", api.MaxCode-1)), 0, api.OK},
		{frame(rep("return\n", api.MaxCode)), 0, api.ErrFull},
		{frame(rep("return\n", api.MaxCode) + "x\n"), head - 5 + 7*api.MaxCode + 1, api.ErrText},
	} {
		c, at, e := parse.Parse(x.s)
		if e != x.e || at != x.at || (e == api.OK) == reflect.DeepEqual(c, api.Code{}) {
			t.Errorf("%d: %d, %v, want %d, %v", i, at, e, x.at, x.e)
		}
	}
	if _, at, e := parse.Parse(frame("x := " + rep("f(", 499980))); at != 0 || e != api.ErrDeep {
		t.Errorf("more calls within each other than are promised: %d, %v", at, e)
	}
	if _, at, e := parse.Parse(frame(rep("f(f(1))\n", 100000))); at != 0 || e != api.ErrFull {
		t.Errorf("many calls behind each other: %d, %v", at, e)
	}
	// As deep as a text can be, of what is nested without end.
	for _, s := range []string{"f(", "if x {\n} else ", "y + ", "y."} {
		n := 990000 / len(s)
		if s == "f(" {
			n = 1 << 16
		}
		if _, _, e := parse.Parse(frame("x := 1\n" + rep(s, n))); e != api.ErrText {
			t.Errorf("%q so often: %v", s, e)
		}
	}
}

// Promise 30.2: what is printed is read as the same, and its text stays.
func TestBack(t *testing.T) {
	exprs := []string{"1", "true", "nil", "x", "new(s)", "f()", "look(x)"}
	for range 2 {
		for i, a := range exprs {
			b := exprs[(i*7+3)%len(exprs)]
			exprs = append(exprs, "("+a+").f", "!("+a+")", "-("+b+")", "f("+a+", "+b+")")
			for j, op := range []string{"||", "&&", "==", "!=", "<", "<=", "+", "-", "*"} {
				if (i+j)%4 == 0 {
					exprs = append(exprs, "("+a+") "+op+" ("+b+")", "("+b+") "+op+" "+b)
				}
			}
		}
	}
	for i, a := range exprs {
		b := exprs[(i*13+5)%len(exprs)]
		s := frame("if " + a + " {\n} else if " + b + " {\nreturn " + a + "\n} else {\nx.y = " + b + "\n}\nswitch " + a + " {\ncase 1, 2:\nv := " + b + "\ndefault:\n}\nfor " + a + " {\nf(" + b + ")\n}\n")
		c, at, e := parse.Parse(s)
		if e != api.OK {
			t.Fatalf("%q: %d, %v", s, at, e)
		}
		p, e := print.Print(c)
		if e != api.OK {
			t.Fatalf("%q: %v", s, e)
		}
		d, at, e := parse.Parse(p)
		if e != api.OK || !code.Same(c, d) || !reflect.DeepEqual(c, d) {
			t.Fatalf("%q: %d, %v", p, at, e)
		}
		if q, _ := print.Print(d); q != p {
			t.Fatalf("%q is printed again as %q", p, q)
		}
	}
	if !slices.Contains(exprs, "!(x)") {
		t.Errorf("%q", exprs[:20])
	}
}
