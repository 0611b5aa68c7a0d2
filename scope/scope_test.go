package scope_test

import (
	"math"
	"slices"
	"strings"
	"testing"

	"gramarye/api"
	"gramarye/code"
	"gramarye/parse"
	"gramarye/scope"
)

// read reads a program.
func read(t *testing.T, s string) api.Code {
	t.Helper()
	c, at, e := parse.Parse("package p\n" + s)
	if e != api.OK {
		t.Fatalf("%q: %d, %v", s, at, e)
	}
	return c
}

const things = "type s struct {\nf int\ng *s\n}\ntype e struct {\n}\nfunc h(x int, y *e) *s {\nreturn nil\n}\nfunc s() {\n}\n"

// Promise 31.1: what is well named.
func TestGood(t *testing.T) {
	for _, s := range []string{
		"", things,
		"func f(x int) {\ny := x\nz := y\nx = z\n}\n",
		"func f(x int) {\nif x {\ny := 1\n} else {\ny := x\n}\ny := 2\n}\n",
		"func f(x int) {\nfor x {\ny := 1\nz := y\n}\nfor x {\nz := 1\n}\n}\n",
		"func f() {\nf := 1\nf = f\nf()\n}\n",
		"func f() {\nx := 1\n}\nfunc g() {\nx := 1\n}\nfunc h() {\ng()\n}\n",
		"func f() {\nlook()\nx := look(1, 2)\n}\n",
		"func f(x int) {\nswitch x {\ncase 1, 2:\ny := 1\ncase 3:\ny := 1\ndefault:\ny := 1\n}\ny := x.y.f\n}\n",
		"type t struct {\nt *t\n}\nfunc t(t *t) *t {\nreturn new(t)\n}\n",
	} {
		c := read(t, s)
		if at, e := scope.Check(c); at != -1 || e != api.OK {
			t.Errorf("%q: %d, %v", s, at, e)
		}
	}
}

// Promise 31.1: what is wrong with nodes, the first one, in order.
func TestNodes(t *testing.T) {
	for _, x := range []struct {
		body string
		at   int
	}{
		{"x := 1\n", 1},
		{"y = 1\n", 2},
		{"x = y\n", 3},
		{"y := y\n", 2},
		{"y := 1\ny := 2\n", 3},
		{"y := 1\nif x {\ny := 2\n}\n", 6},
		{"if x {\ny := 1\n}\nx = y\n", 8},
		{"if x {\ny := 1\n} else {\nx = y\n}\n", 9},
		{"for y {\ny := 1\n}\n", 2},
		{"z := 1\nfor x {\ny := z\nx := 1\n}\n", 8},
		{"x = new(t)\n", 3},
		{"x = new(h)\n", 3},
		{"x = g(y)\n", 3},
		{"x = e()\n", 3},
		{"x = h(y)\n", 4},
		{"look(y)\n", 3},
		{"switch y {\ncase 1, 1:\n}\n", 1},
		{"switch x {\ncase 1, 2:\ncase 3, 2:\n}\n", 1},
		{"switch x {\ncase 1:\ny := y\n}\n", 5},
		{"switch x {\ncase 1:\ndefault:\ny := 1\n}\nx = y\n", 9},
		{"return h(x, x.y, z)\n", 6},
		{"return -!(x + 1 * z)\n", 8},
		{"x = 1\n}\nfunc k() {\nreturn x\n", 6},
		{"h(x, look(y), new(t))\n", 5},
	} {
		c := read(t, "func f(x int) {\n"+x.body+"}\n"+things)
		if at, e := scope.Check(c); at != x.at || e != api.ErrScope {
			t.Errorf("%q: %d, %v, want %d", x.body, at, e, x.at)
		}
		r := turned(c)
		if at, e := scope.Check(r); at != turnedAt(c, x.at) || e != api.ErrScope {
			t.Errorf("%q, in another order: %d, %v, want %d", x.body, at, e, turnedAt(c, x.at))
		}
	}
}

// turnedOrder tells c's nodes by how deep they are, those of one depth from behind.
func turnedOrder(c api.Code) []int {
	deep := make([]int, len(c.L))
	var order []int
	for i, x := range c.L {
		for _, k := range code.Kids(x) {
			deep[k] = deep[i] + 1
		}
		order = append(order, i)
	}
	slices.SortFunc(order, func(a, b int) int {
		if deep[a] != deep[b] {
			return deep[a] - deep[b]
		}
		return b - a
	})
	return order
}

func turnedAt(c api.Code, i int) int { return slices.Index(turnedOrder(c), i) }

// turned is the same program, its nodes in another order.
func turned(c api.Code) api.Code {
	order := turnedOrder(c)
	r, _ := code.Norm(c)
	at := func(i int) int {
		if i < 0 {
			return i
		}
		return slices.Index(order, i)
	}
	for i := range r.Funcs {
		r.Funcs[i].Body = at(c.Funcs[i].Body)
	}
	for n, i := range order {
		x := c.L[i]
		y := api.Cnode{Kind: x.Kind, N: x.N, Name: x.Name, A: at(x.A), B: at(x.B), C: at(x.C)}
		for _, k := range x.L {
			y.L = append(y.L, at(k))
		}
		for _, k := range x.Cases {
			y.Cases = append(y.Cases, api.Case{L: k.L, Body: at(k.Body)})
		}
		r.L[n] = y
	}
	return r
}

// Promises 31.1 and 31.3: names of nodes that no text has; and other orders.
func TestNames(t *testing.T) {
	good := read(t, "func f(x int) {\ny := x\nf(new(s).f)\n}\n"+things)
	if r := turned(good); !code.Same(r, good) || slices.EqualFunc(r.L, good.L, func(a, b api.Cnode) bool { return a.Kind == b.Kind }) {
		t.Fatalf("not in another order")
	} else if at, e := scope.Check(r); at != -1 || e != api.OK {
		t.Errorf("in another order: %d, %v", at, e)
	}
	for _, bad := range []string{"", "9", "if", "look", "a b", strings.Repeat("x", 41)} {
		for _, i := range []int{1, 2, 4, 5, 6} {
			if bad == "look" && i == 4 {
				continue
			}
			c := read(t, "func f(x int) {\ny := x\nf(new(s).f)\n}\n"+things)
			c.L[i].Name = bad
			if at, e := scope.Check(c); at != i || e != api.ErrScope {
				t.Errorf("node %d is named %q: %d, %v", i, bad, at, e)
			}
		}
	}
}

// Promise 31.1: what is wrong, and no node; even if a node is wrong, too.
func TestGlobal(t *testing.T) {
	long := strings.Repeat("x", 41)
	for i, f := range []func(c *api.Code){
		func(c *api.Code) { c.Name = "" },
		func(c *api.Code) { c.Name = "if" },
		func(c *api.Code) { c.Name = long },
		func(c *api.Code) { c.Structs[0].Name = "look" },
		func(c *api.Code) { c.Structs[1].Name = "s" },
		func(c *api.Code) { c.Structs[1].Name = "" },
		func(c *api.Code) { c.Structs[0].L[0].Name = "a-b" },
		func(c *api.Code) { c.Structs[0].L[1].Name = "f" },
		func(c *api.Code) { c.Structs[0].L[0].Type = "" },
		func(c *api.Code) { c.Structs[0].L[0].Type = "nil" },
		func(c *api.Code) { c.Structs[0].L[0].Type = "s" },
		func(c *api.Code) { c.Structs[0].L[0].Type = "*int" },
		func(c *api.Code) { c.Structs[0].L[0].Type = "*t" },
		func(c *api.Code) { c.Structs[0].L[0].Type = "**s" },
		func(c *api.Code) { c.Funcs[0].Name = "new" },
		func(c *api.Code) { c.Funcs[0].Name = "look" },
		func(c *api.Code) { c.Funcs[0].Name = "s" },
		func(c *api.Code) { c.Funcs[0].Params[0].Name = "" },
		func(c *api.Code) { c.Funcs[0].Params[0].Name = "y" },
		func(c *api.Code) { c.Funcs[0].Params[0].Type = "" },
		func(c *api.Code) { c.Funcs[0].Params[0].Type = "*h" },
		func(c *api.Code) { c.Funcs[0].Result = "e" },
		func(c *api.Code) { c.Funcs[0].Result = "*x" },
		func(c *api.Code) { c.Funcs[1].Result = " int" },
		func(c *api.Code) { c.Structs = c.Structs[:1] },
		func(c *api.Code) { c.Structs = append(c.Structs, api.Struct{Name: "s"}) },
	} {
		c := read(t, things)
		f(&c)
		if at, e := scope.Check(c); at != -1 || e != api.ErrScope {
			t.Errorf("%d: %d, %v", i, at, e)
		}
		c = read(t, things+"func k() {\nx = 1\n}\n")
		f(&c)
		if at, e := scope.Check(c); at != -1 || e != api.ErrScope {
			t.Errorf("%d, with a node: %d, %v", i, at, e)
		}
	}
	c := read(t, things)
	c.L[0].N = 1
	c.Name = ""
	for _, c := range []api.Code{c, {Funcs: make([]api.Func, 1001)}} {
		if at, e := scope.Check(c); at != -1 || e != code.May(c) || e == api.OK || len(scope.Reach(c, 0)) != 0 {
			t.Errorf("%d, %v", at, e)
		}
	}
}

// Promise 31.1: Struct; 31.2: Reach.
func TestReach(t *testing.T) {
	c := read(t, "func f(x int, y int) {\na := x\nif x {\nb := a\nfor b {\nc := b\n}\n} else {\nd := y\n}\nswitch a {\ncase 1:\na := 1\nx = a\ndefault:\ne := 1\n}\nx := y\nreturn x\n}\nfunc g() {\na := 1\n}\n")
	want := map[int]string{
		0: "x y", 1: "x y", 2: "x y", 3: "x y a", 4: "x y a", 5: "x y a", 6: "x y a", 7: "x y a", 8: "x y a b", 9: "x y a b", 10: "x y a b", 11: "x y a b", 12: "x y a b",
		13: "x y a", 14: "x y a", 15: "x y a", 16: "x y a", 17: "x y a", 18: "x y a", 19: "x y a", 20: "x y a", 21: "x y a", 22: "x y a", 23: "x y a",
		24: "x y a a", 25: "x y a a", 26: "x y a a", 27: "x y a", 28: "x y a", 29: "x y a x", 30: "x y a x", 31: "", 32: "", 33: "",
	}
	if len(want) != len(c.L) {
		t.Fatalf("%d nodes", len(c.L))
	}
	r := turned(c)
	for i, s := range want {
		if got := strings.Join(scope.Reach(c, i), " "); got != s {
			t.Errorf("node %d: %q, want %q", i, got, s)
		}
		if got := strings.Join(scope.Reach(r, turnedAt(c, i)), " "); got != s {
			t.Errorf("node %d, in another order: %q, want %q", i, got, s)
		}
	}
	for _, i := range []int{-1, len(c.L), math.MinInt, math.MaxInt} {
		if got := scope.Reach(c, i); len(got) != 0 {
			t.Errorf("node %d: %q", i, got)
		}
	}
	c.Funcs[0].Params[0].Name = "y"
	if got := scope.Reach(c, 8); !slices.Equal(got, []string{"y", "y", "a", "b"}) {
		t.Errorf("%q", got)
	}
	d := api.Code{Structs: []api.Struct{{Name: "a"}, {Name: ""}, {Name: "b"}, {Name: "a"}}}
	for s, want := range map[string]int{"a": 0, "": 1, "b": 2, "c": -1} {
		if got := scope.Struct(d, s); got != want {
			t.Errorf("Struct %q: %d", s, got)
		}
	}
}
