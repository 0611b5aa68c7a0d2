package print_test

import (
	"math"
	"reflect"
	"strings"
	"testing"

	"gramarye/api"
	"gramarye/code"
	"gramarye/print"
)

// part puts a node, with all below it, behind others, and tells its place.
type part func(l *[]api.Cnode) int

// of is a node of a kind; f puts its children.
func of(x api.Cnode, f func(x *api.Cnode, put func(part) int)) part {
	return func(l *[]api.Cnode) int {
		i, x := len(*l), x
		*l = append(*l, x)
		if f != nil {
			f(&x, func(p part) int { return p(l) })
			(*l)[i] = x
		}
		return i
	}
}

func leaf(kind int) api.Cnode { return api.Cnode{Kind: kind, A: -1, B: -1, C: -1} }

func num(n int) part {
	x := leaf(api.XInt)
	x.N = n
	return of(x, nil)
}

func truth(n int) part {
	x := leaf(api.XBool)
	x.N = n
	return of(x, nil)
}

func null() part { return of(leaf(api.XNil), nil) }

func name(kind int, s string) part {
	x := leaf(kind)
	x.Name = s
	return of(x, nil)
}

func v(s string) part { return name(api.XVar, s) }

func one(kind int, s string, a part) part {
	x := leaf(kind)
	x.Name = s
	return of(x, func(x *api.Cnode, put func(part) int) { x.A = put(a) })
}

func two(kind, n int, a, b part) part {
	x := leaf(kind)
	x.N = n
	return of(x, func(x *api.Cnode, put func(part) int) { x.A = put(a); x.B = put(b) })
}

func bin(n int, a, b part) part { return two(api.XBin, n, a, b) }

func list(kind int, s string, l ...part) part {
	x := leaf(kind)
	x.Name = s
	return of(x, func(x *api.Cnode, put func(part) int) {
		for _, p := range l {
			x.L = append(x.L, put(p))
		}
	})
}

func block(l ...part) part { return list(api.SBlock, "", l...) }

func choice(a, b, c part) part {
	return of(leaf(api.SIf), func(x *api.Cnode, put func(part) int) {
		x.A, x.B = put(a), put(b)
		if c != nil {
			x.C = put(c)
		}
	})
}

func table(a, b part, nums [][]int, bodies ...part) part {
	return of(leaf(api.SSwitch), func(x *api.Cnode, put func(part) int) {
		x.A = put(a)
		if b != nil {
			x.B = put(b)
		}
		for i, p := range bodies {
			x.Cases = append(x.Cases, api.Case{L: nums[i], Body: put(p)})
		}
	})
}

// program is a program of one function with these statements.
func program(l ...part) api.Code {
	c := api.Code{Name: "p", Funcs: []api.Func{{Name: "f"}}}
	block(l...)(&c.L)
	return c
}

// Promise 29.2: expressions.
func TestExpr(t *testing.T) {
	or, and, same, other, less, most, add, sub, mul := api.OOr, api.OAnd, api.OSame, api.OElse, api.OLess, api.OMost, api.OAdd, api.OSub, api.OMul
	a, b, c := v("a"), v("b"), v("c")
	for _, x := range []struct {
		p    part
		want string
	}{
		{num(0), "0"}, {num(1<<31 - 1), "2147483647"}, {truth(0), "false"}, {truth(1), "true"}, {null(), "nil"}, {v("x"), "x"}, {name(api.XNew, "t"), "new(t)"},
		{one(api.XNot, "", a), "!a"}, {one(api.XNeg, "", num(1)), "-1"}, {one(api.XNeg, "", one(api.XNeg, "", one(api.XNot, "", a))), "--!a"},
		{one(api.XNot, "", bin(mul, a, b)), "!(a * b)"}, {one(api.XNeg, "", one(api.XField, "f", a)), "-a.f"}, {one(api.XField, "f", one(api.XNeg, "", a)), "(-a).f"},
		{one(api.XField, "g", one(api.XField, "f", a)), "a.f.g"}, {one(api.XField, "f", list(api.XCall, "h", a)), "h(a).f"}, {one(api.XField, "f", name(api.XNew, "t")), "new(t).f"},
		{one(api.XField, "f", bin(add, a, b)), "(a + b).f"}, {one(api.XField, "f", num(5)), "5.f"}, {one(api.XField, "f", null()), "nil.f"},
		{list(api.XCall, "h"), "h()"}, {list(api.XCall, "h", bin(or, a, b), num(2), c), "h(a || b, 2, c)"}, {list(api.XCall, "look", a), "look(a)"},
		{bin(or, a, b), "a || b"}, {bin(and, a, b), "a && b"}, {bin(same, a, b), "a == b"}, {bin(other, a, b), "a != b"}, {bin(less, a, b), "a < b"}, {bin(most, a, b), "a <= b"}, {bin(add, a, b), "a + b"}, {bin(sub, a, b), "a - b"}, {bin(mul, a, b), "a * b"},
		{bin(mul, bin(add, num(1), num(2)), num(3)), "(1 + 2) * 3"}, {bin(add, num(1), bin(mul, num(2), num(3))), "1 + 2 * 3"},
		{bin(sub, bin(sub, a, b), c), "a - b - c"}, {bin(sub, a, bin(sub, b, c)), "a - (b - c)"}, {bin(add, bin(sub, a, b), c), "a - b + c"}, {bin(sub, a, bin(add, b, c)), "a - (b + c)"},
		{bin(mul, a, bin(mul, b, c)), "a * (b * c)"}, {bin(mul, bin(mul, a, b), c), "a * b * c"},
		{bin(or, a, bin(or, b, c)), "a || (b || c)"}, {bin(or, bin(or, a, b), c), "a || b || c"}, {bin(or, bin(and, a, b), bin(and, b, c)), "a && b || b && c"}, {bin(and, bin(or, a, b), bin(or, b, c)), "(a || b) && (b || c)"},
		{bin(same, bin(less, a, b), c), "a < b == c"}, {bin(same, a, bin(most, b, c)), "a == (b <= c)"}, {bin(and, bin(same, a, b), bin(other, b, c)), "a == b && b != c"}, {bin(same, bin(and, a, b), c), "(a && b) == c"},
		{bin(less, bin(add, a, b), bin(sub, b, c)), "a + b < b - c"}, {bin(add, bin(less, a, b), c), "(a < b) + c"},
		{bin(mul, one(api.XNeg, "", a), one(api.XNot, "", b)), "-a * !b"}, {bin(sub, a, one(api.XNeg, "", b)), "a - -b"},
	} {
		p := program(one(api.SVar, "x", x.p))
		got, e := print.Expr(p, 2)
		if e != api.OK || got != x.want {
			t.Errorf("%q, %v, want %q", got, e, x.want)
		}
		s, e := print.Print(p)
		if want := "package p\n\nfunc f() {\n\tx := " + x.want + "\n}\n"; e != api.OK || s != want {
			t.Errorf("%q, %v, want %q", s, e, want)
		}
	}
}

// Promise 29.1: statements.
func TestStatements(t *testing.T) {
	a, b := v("a"), v("b")
	for _, x := range []struct {
		p    part
		want string
	}{
		{one(api.SVar, "x", bin(api.OMul, bin(api.OAdd, num(1), num(2)), num(3))), "x := (1 + 2) * 3"},
		{two(api.SSet, 0, a, b), "a = b"},
		{two(api.SSet, 0, one(api.XField, "f", one(api.XField, "g", a)), null()), "a.g.f = nil"},
		{of(leaf(api.SReturn), nil), "return"},
		{one(api.SReturn, "", bin(api.OOr, a, b)), "return a || b"},
		{one(api.SCall, "", list(api.XCall, "h", a, b)), "h(a, b)"},
		{two(api.SFor, 0, a, block()), "for a {\n}"},
		{two(api.SFor, 0, bin(api.OLess, a, b), block(two(api.SSet, 0, a, b), of(leaf(api.SReturn), nil))), "for a < b {\n\ta = b\n\treturn\n}"},
		{choice(a, block(), nil), "if a {\n}"},
		{choice(a, block(of(leaf(api.SReturn), nil)), block(two(api.SSet, 0, a, b))), "if a {\n\treturn\n} else {\n\ta = b\n}"},
		{choice(a, block(), choice(b, block(), choice(a, block(), block()))), "if a {\n} else if b {\n} else if a {\n} else {\n}"},
		{choice(a, block(choice(b, block(), nil)), choice(b, block(two(api.SSet, 0, a, b)), nil)), "if a {\n\tif b {\n\t}\n} else if b {\n\ta = b\n}"},
		{table(a, nil, nil), "switch a {\n}"},
		{table(a, block(), nil), "switch a {\ndefault:\n}"},
		{table(a, block(two(api.SSet, 0, a, b)), [][]int{{1}, {0, 1<<31 - 1, 7}}, block(of(leaf(api.SReturn), nil)), block(choice(b, block(), nil))), "switch a {\ncase 1:\n\treturn\ncase 0, 2147483647, 7:\n\tif b {\n\t}\ndefault:\n\ta = b\n}"},
		{two(api.SFor, 0, a, block(table(b, nil, [][]int{{3}}, block(table(a, nil, [][]int{{4}}, block(of(leaf(api.SReturn), nil))))))), "for a {\n\tswitch b {\n\tcase 3:\n\t\tswitch a {\n\t\tcase 4:\n\t\t\treturn\n\t\t}\n\t}\n}"},
	} {
		s, e := print.Print(program(x.p, x.p))
		line := "\t" + strings.ReplaceAll(x.want, "\n", "\n\t") + "\n"
		if want := "package p\n\nfunc f() {\n" + line + line + "}\n"; e != api.OK || s != want {
			t.Errorf("%q, %v, want %q", s, e, want)
		}
	}
}

// Promise 29.1: structs, functions, and none.
func TestProgram(t *testing.T) {
	c := api.Code{
		Name:    "p",
		Structs: []api.Struct{{Name: "t", L: []api.Field{{Name: "f", Type: "int"}, {Name: "g", Type: "*t"}}}, {Name: "e"}},
		Funcs: []api.Func{
			{Name: "f", Params: []api.Field{{Name: "x", Type: "int"}, {Name: "y", Type: "*t"}}, Result: "bool"},
			{Name: "g", Params: []api.Field{{Name: "x", Type: "int"}}},
			{Name: "h", Result: "*t"},
		},
	}
	c.Funcs[2].Body = block(one(api.SReturn, "", null()))(&c.L)
	c.Funcs[0].Body = block(one(api.SReturn, "", truth(1)))(&c.L)
	c.Funcs[1].Body = block()(&c.L)
	want := "package p\n\ntype t struct {\n\tf int\n\tg *t\n}\n\ntype e struct {\n}\n\nfunc f(x int, y *t) bool {\n\treturn true\n}\n\nfunc g(x int) {\n}\n\nfunc h() *t {\n\treturn nil\n}\n"
	s, e := print.Print(c)
	if e != api.OK || s != want {
		t.Errorf("%q, %v, want %q", s, e, want)
	}
	n, _ := code.Norm(c)
	if r, _ := print.Print(n); r != s || reflect.DeepEqual(n, c) {
		t.Errorf("in order it is %q", r)
	}
	if s, e := print.Print(api.Code{Name: "none"}); s != "package none\n" || e != api.OK {
		t.Errorf("%q, %v", s, e)
	}
	if s, e := print.Print(api.Code{}); s != "package \n" || e != api.OK {
		t.Errorf("%q, %v", s, e)
	}
}

// Promises 29.1 and 29.2: errors.
func TestWrong(t *testing.T) {
	p := program(one(api.SReturn, "", num(1)))
	for i, want := range []bool{false, false, true} {
		if s, e := print.Expr(p, i); (e == api.OK) != want || !want && (e != api.ErrNone || s != "") {
			t.Errorf("node %d: %q, %v", i, s, e)
		}
	}
	for _, i := range []int{-1, 3, math.MinInt, math.MaxInt} {
		if s, e := print.Expr(p, i); e != api.ErrNone || s != "" {
			t.Errorf("node %d: %q, %v", i, s, e)
		}
	}
	form, full, deep := program(num(1)), program(), program(one(api.SReturn, "", null()))
	full.Funcs = make([]api.Func, 1001)
	deep.L = deep.L[:2]
	for i := 2; i < 60; i++ {
		deep.L = append(deep.L, api.Cnode{Kind: api.XNot, A: i + 1, B: -1, C: -1})
	}
	deep.L = append(deep.L, leaf(api.XNil))
	for i, x := range []struct {
		c    api.Code
		want api.Errno
	}{{form, api.ErrForm}, {full, api.ErrFull}, {deep, api.ErrDeep}} {
		s, e := print.Print(x.c)
		r, f := print.Expr(x.c, 99)
		if e != x.want || f != x.want || s+r != "" {
			t.Errorf("%d: %q, %v, %v, want %v", i, s, e, f, x.want)
		}
	}
}

// Promise 29.1: a text as long as can be, and one byte more.
func TestLong(t *testing.T) {
	frame := len("package \n")
	for n, want := range map[int]api.Errno{1000000 - frame: api.OK, 1000001 - frame: api.ErrLong} {
		s, e := print.Print(api.Code{Name: strings.Repeat("x", n)})
		if e != want || (e == api.OK) != (len(s) == 1000000) || e != api.OK && s != "" {
			t.Errorf("%d: %d bytes, %v", n, len(s), e)
		}
	}
	c := program(one(api.SVar, strings.Repeat("x", 1000001), num(1)))
	if s, e := print.Expr(c, 2); s != "1" || e != api.OK {
		t.Errorf("%q, %v", s, e)
	}
	if _, e := print.Print(c); e != api.ErrLong {
		t.Errorf("%v", e)
	}
}
