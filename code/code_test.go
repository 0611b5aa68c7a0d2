package code_test

import (
	"math"
	"reflect"
	"slices"
	"testing"

	"gramarye/api"
	"gramarye/code"
)

// node is a node of a kind with what f puts into it.
func node(kind int, f func(x *api.Cnode)) api.Cnode {
	x := api.Cnode{Kind: kind, A: -1, B: -1, C: -1}
	if f != nil {
		f(&x)
	}
	return x
}

func named(kind int, s string) api.Cnode { return node(kind, func(x *api.Cnode) { x.Name = s }) }
func num(kind, n int) api.Cnode          { return node(kind, func(x *api.Cnode) { x.N = n }) }
func block(l ...int) api.Cnode           { return node(api.SBlock, func(x *api.Cnode) { x.L = l }) }

func over(kind int, abc ...int) api.Cnode {
	return node(kind, func(x *api.Cnode) {
		for i, k := range abc {
			*[]*int{&x.A, &x.B, &x.C}[i] = k
		}
	})
}

func with(x api.Cnode, f func(x *api.Cnode)) api.Cnode {
	f(&x)
	return x
}

// full has a node of each kind, in order.
func full() api.Code {
	return api.Code{
		Name:    "p",
		Structs: []api.Struct{{Name: "s", L: []api.Field{{Name: "f", Type: "int"}, {Name: "g", Type: "*s"}}}, {}},
		Funcs: []api.Func{
			{Name: "f", Params: []api.Field{{Name: "x", Type: "int"}}, Result: "bool", Body: 0},
			{Name: "", Body: 37},
		},
		L: []api.Cnode{
			0:  block(1, 5, 10, 22, 26, 32, 34),
			1:  with(over(api.SVar, 2), func(x *api.Cnode) { x.Name = "v" }),
			2:  with(over(api.XBin, 3, 4), func(x *api.Cnode) { x.N = api.OMul }),
			3:  num(api.XInt, 1<<31-1),
			4:  over(api.XNeg, 6),
			6:  named(api.XVar, "x"),
			5:  over(api.SSet, 7, 9),
			7:  with(over(api.XField, 8), func(x *api.Cnode) { x.Name = "f" }),
			8:  named(api.XVar, "v"),
			9:  num(api.XInt, 0),
			10: over(api.SIf, 11, 13, 15),
			11: over(api.XNot, 12),
			12: num(api.XBool, 1),
			13: block(14),
			14: over(api.SReturn),
			15: over(api.SIf, 16, 17, 18),
			16: num(api.XBool, 0),
			17: block(),
			18: block(19),
			19: over(api.SCall, 20),
			20: with(named(api.XCall, "look"), func(x *api.Cnode) { x.L = []int{21} }),
			21: num(api.XInt, 7),
			22: over(api.SFor, 23, 24),
			23: named(api.XVar, "b"),
			24: block(25),
			25: over(api.SReturn, 31),
			26: with(over(api.SSwitch, 27, 28), func(x *api.Cnode) {
				x.Cases = []api.Case{{L: []int{1, 1<<31 - 1}, Body: 29}, {L: []int{0}, Body: 30}}
			}),
			27: num(api.XInt, 1), 28: block(), 29: block(), 30: block(),
			31: node(api.XNil, nil),
			32: over(api.SSwitch, 33), 33: num(api.XInt, 2),
			34: with(over(api.SVar, 35), func(x *api.Cnode) { x.Name = "w" }),
			35: named(api.XNew, "s"),
			36: over(api.SReturn),
			37: block(36),
		},
	}
}

// good is full, but for the second body, which has to stand ahead of its statement.
func good() api.Code {
	c := full()
	c.L[36], c.L[37] = block(37), over(api.SReturn)
	c.Funcs[1].Body = 36
	return c
}

// nested is a function of so many nested nodes.
func nested(deep int) api.Code {
	c := api.Code{Funcs: []api.Func{{}}, L: []api.Cnode{block(1), over(api.SReturn, 2)}}
	for i := 2; i < deep-1; i++ {
		c.L = append(c.L, over(api.XNot, i+1))
	}
	c.L = append(c.L, node(api.XNil, nil))
	return c
}

// Promise 26.1: what may be.
func TestMay(t *testing.T) {
	many := api.Code{Structs: make([]api.Struct, 100), Funcs: make([]api.Func, 1000), L: slices.Repeat([]api.Cnode{block()}, api.MaxCode)}
	many.Structs[7].L, many.Funcs[7].Params = make([]api.Field, 100), make([]api.Field, 100)
	for i := range many.Funcs {
		many.Funcs[i].Body = i
	}
	for i := 1000; i < api.MaxCode; i++ {
		many.L[i] = over(api.SReturn)
		many.L[0].L = append(many.L[0].L, i)
	}
	for i, c := range []api.Code{{}, good(), nested(3), nested(60), many} {
		if e := code.May(c); e != api.OK {
			t.Errorf("%d: %v", i, e)
		}
	}
}

// Promise 26.1: what may not be, and what fails first.
func TestMayNot(t *testing.T) {
	type f = func(c *api.Code)
	for i, x := range []struct {
		e api.Errno
		f f
	}{
		{api.ErrFull, func(c *api.Code) { c.Structs = make([]api.Struct, 101) }},
		{api.ErrFull, func(c *api.Code) { c.Structs[1].L = make([]api.Field, 101) }},
		{api.ErrFull, func(c *api.Code) { c.Funcs = make([]api.Func, 1001) }},
		{api.ErrFull, func(c *api.Code) { c.Funcs[1].Params = make([]api.Field, 101) }},
		{api.ErrFull, func(c *api.Code) { c.L = make([]api.Cnode, api.MaxCode+1) }},
		{api.ErrForm, func(c *api.Code) { *c = nested(61); c.L[1].N = 1 }},
		{api.ErrDeep, func(c *api.Code) { *c = nested(61) }},
		{api.ErrForm, func(c *api.Code) { *c = full() }},
		{api.ErrForm, func(c *api.Code) { c.Funcs[1].Body = -1 }},
		{api.ErrForm, func(c *api.Code) { c.Funcs[1].Body = 38 }},
		{api.ErrForm, func(c *api.Code) { c.Funcs[1].Body = 37 }},
		{api.ErrForm, func(c *api.Code) { c.Funcs[1].Body = 0 }},
		{api.ErrForm, func(c *api.Code) { c.Funcs[1].Body = 30 }},
		{api.ErrForm, func(c *api.Code) { c.Funcs = c.Funcs[:1] }},
		{api.ErrForm, func(c *api.Code) { c.L = append(c.L, block()) }},
		{api.ErrForm, func(c *api.Code) { c.L[36].L = []int{37, 37} }},
		{api.ErrForm, func(c *api.Code) { c.L[36].L = []int{-1} }},
		{api.ErrForm, func(c *api.Code) { c.L[36].L = []int{36} }},
		{api.ErrForm, func(c *api.Code) { c.L[36].L = []int{38} }},
		{api.ErrForm, func(c *api.Code) { c.L[37] = num(api.XInt, 1) }},
		{api.ErrForm, func(c *api.Code) { c.L[37] = block() }},
		{api.ErrForm, func(c *api.Code) { c.L[3].Kind = 0 }},
		{api.ErrForm, func(c *api.Code) { c.L[3].Kind = -1 }},
		{api.ErrForm, func(c *api.Code) { c.L[37].Kind = 19 }},
		{api.ErrForm, func(c *api.Code) { c.L[3].N = -1 }},
		{api.ErrForm, func(c *api.Code) { c.L[3].N = 1 << 31 }},
		{api.ErrForm, func(c *api.Code) { c.L[12].N = 2 }},
		{api.ErrForm, func(c *api.Code) { c.L[12].N = -1 }},
		{api.ErrForm, func(c *api.Code) { c.L[2].N = 0 }},
		{api.ErrForm, func(c *api.Code) { c.L[2].N = 10 }},
		{api.ErrForm, func(c *api.Code) { c.L[2].A = math.MaxInt }},
		{api.ErrForm, func(c *api.Code) { c.L[2].A = math.MinInt }},
		{api.ErrForm, func(c *api.Code) { c.L[26].Cases[0].L = nil }},
		{api.ErrForm, func(c *api.Code) { c.L[26].Cases[0].L = []int{-1} }},
		{api.ErrForm, func(c *api.Code) { c.L[26].Cases[0].L = []int{1, 1 << 31} }},
		{api.ErrForm, func(c *api.Code) { c.L[26].Cases[1].Body = 29 }},
		{api.ErrForm, func(c *api.Code) { c.L[26].Cases[1].Body = -1 }},
		{api.ErrForm, func(c *api.Code) { c.L[26].Cases[1].Body = 99 }},
		{api.ErrForm, func(c *api.Code) { c.L[30] = num(api.XInt, 1) }},
		{api.ErrForm, func(c *api.Code) { c.L[28] = over(api.SReturn) }},
		{api.ErrForm, func(c *api.Code) { c.L[13].L = []int{15}; c.L[10].C = 14 }},
		{api.ErrForm, func(c *api.Code) { c.L[10].B, c.L[10].C = 15, 13 }},
		{api.ErrForm, func(c *api.Code) { c.L[20].L = []int{22}; c.L[0].L[3] = 21 }},
		{api.ErrForm, func(c *api.Code) { c.L[17] = block(18); c.L[15].C = -1 }},
		{api.ErrForm, func(c *api.Code) { c.L[19].A, c.L[25].A = 31, 20 }},
		{api.ErrForm, func(c *api.Code) { c.L[5].A, c.L[5].B = 9, 7 }},
		{api.ErrForm, func(c *api.Code) { c.L[6].A = 8; c.L[7].A = -1 }},
	} {
		c := good()
		x.f(&c)
		if e := code.May(c); e != x.e {
			t.Errorf("%d: %v, want %v", i, e, x.e)
		}
		if n, e := code.Norm(c); e != x.e || !reflect.DeepEqual(n, api.Code{}) || code.Same(c, c) {
			t.Errorf("%d: Norm: %v", i, e)
		}
	}
}

// Promise 26.1: of each node, each part that does not count of its kind, and each child that it has to have.
func TestParts(t *testing.T) {
	counts := map[int]string{
		api.XInt: "N", api.XBool: "N", api.XNil: "", api.XVar: "S", api.XNot: "A", api.XNeg: "A", api.XBin: "NAB", api.XCall: "SL", api.XField: "SA", api.XNew: "S",
		api.SBlock: "L", api.SVar: "SA", api.SSet: "AB", api.SIf: "ABC", api.SFor: "AB", api.SSwitch: "ABX", api.SReturn: "A", api.SCall: "A",
	}
	parts := map[string]func(x *api.Cnode){
		"N": func(x *api.Cnode) { x.N = 1 },
		"S": func(x *api.Cnode) { x.Name = "x" },
		"A": func(x *api.Cnode) { x.A = 38 },
		"B": func(x *api.Cnode) { x.B = 38 },
		"C": func(x *api.Cnode) { x.C = 38 },
		"L": func(x *api.Cnode) { x.L = append(slices.Clone(x.L), 38) },
		"X": func(x *api.Cnode) { x.Cases = append(slices.Clone(x.Cases), api.Case{L: []int{1}, Body: 38}) },
	}
	for i, x := range good().L {
		for part, f := range parts {
			if slices.Contains([]byte(counts[x.Kind]), part[0]) {
				continue
			}
			for _, kid := range []api.Cnode{num(api.XInt, 1), over(api.SReturn), block(), with(named(api.XCall, "f"), func(*api.Cnode) {})} {
				c := good()
				f(&c.L[i])
				if part != "N" && part != "S" {
					c.L = append(c.L, kid)
				}
				if code.May(c) != api.ErrForm {
					t.Errorf("node %d of kind %d has %s: it may be", i, x.Kind, part)
				}
			}
		}
		free := map[int]bool{api.SReturn: true}
		if x.A != -1 && !free[x.Kind] {
			c := good()
			c.L[i].A = -1
			if code.May(c) != api.ErrForm {
				t.Errorf("node %d of kind %d has no A: it may be", i, x.Kind)
			}
		}
		if x.B != -1 && x.Kind != api.SSwitch {
			c := good()
			c.L[i].B = -1
			if code.May(c) != api.ErrForm {
				t.Errorf("node %d of kind %d has no B: it may be", i, x.Kind)
			}
		}
	}
}

// Promise 26.1: of each kind, children that are none, or of another kind.
func TestChildren(t *testing.T) {
	one := num(api.XInt, 1)
	good := [][]api.Cnode{
		{over(api.SVar, 2), one}, {over(api.SReturn, 2), one}, {over(api.SReturn)},
		{over(api.SReturn, 2), with(over(api.XBin, 3, 4), func(x *api.Cnode) { x.N = 1 }), one, one},
		{over(api.SSet, 2, 3), named(api.XVar, "x"), one}, {over(api.SIf, 2, 3), one, block()}, {over(api.SIf, 2, 3, 4), one, block(), block()}, {over(api.SFor, 2, 3), one, block()},
		{over(api.SSwitch, 2), one}, {over(api.SSwitch, 2, 3), one, block()}, {over(api.SCall, 2), named(api.XCall, "f")},
	}
	bad := [][]api.Cnode{
		{over(api.SVar)}, {over(api.SVar, 2), block()}, {over(api.SVar, 1)}, {over(api.SReturn, 2), block()}, {over(api.SReturn, 2), over(api.SReturn)},
		{over(api.SReturn, 2), with(over(api.XBin, 3), func(x *api.Cnode) { x.N = 1 }), one},
		{over(api.SReturn, 2), with(over(api.XBin, -1, 3), func(x *api.Cnode) { x.N = 1 }), one},
		{over(api.SReturn, 2), with(over(api.XBin, 3, 4), func(x *api.Cnode) { x.N = 1 }), one, block()},
		{over(api.SReturn, 2), with(over(api.XBin, 3, 4), func(x *api.Cnode) { x.N = 1 }), block(), one},
		{over(api.SReturn, 2), over(api.XNot)}, {over(api.SReturn, 2), over(api.XNeg)}, {over(api.SReturn, 2), over(api.XNot, 3), block()}, {over(api.SReturn, 2), named(api.XField, "f")},
		{over(api.SReturn, 2), with(named(api.XCall, "f"), func(x *api.Cnode) { x.L = []int{3} }), block()},
		{over(api.SSet, 2), named(api.XVar, "x")}, {over(api.SSet, -1, 2), one}, {over(api.SSet, 2, 3), one, one}, {over(api.SSet, 2, 3), named(api.XVar, "x"), block()}, {over(api.SSet, 2, 3), block(), one}, {over(api.SSet, 2, 3), named(api.XNew, "x"), one},
		{over(api.SIf, 2), one}, {over(api.SIf, -1, 2), block()}, {over(api.SIf, 2, 3), one, one}, {over(api.SIf, 2, 3), block(), block()}, {over(api.SIf, 2, 3, 4), one, block(), one}, {over(api.SIf, 2, 3, 4), one, block(), over(api.SReturn)}, {over(api.SIf, 2, 3), one, over(api.SReturn)},
		{over(api.SFor, 2), one}, {over(api.SFor, -1, 2), block()}, {over(api.SFor, 2, 3), one, one}, {over(api.SFor, 2, 3), block(), block()},
		{over(api.SSwitch)}, {over(api.SSwitch, 2), block()}, {over(api.SSwitch, -1, 2), block()}, {over(api.SSwitch, 2, 3), one, one},
		{over(api.SCall)}, {over(api.SCall, 2), one}, {over(api.SCall, 2), block()},
		{one}, {block()},
		{over(api.SReturn), over(api.XNot, 2)}, {over(api.SReturn), over(api.XNot, 0)},
	}
	may := func(l []api.Cnode) api.Errno {
		return code.May(api.Code{Funcs: []api.Func{{}}, L: append([]api.Cnode{block(1)}, l...)})
	}
	for i, l := range good {
		if e := may(l); e != api.OK {
			t.Errorf("good %d: %v", i, e)
		}
	}
	for i, l := range bad {
		if e := may(l); e != api.ErrForm {
			t.Errorf("bad %d: %v", i, e)
		}
	}
}

// Promise 26.1: Kids, Leaf, Find.
func TestAsk(t *testing.T) {
	x := api.Cnode{Kind: 99, A: 5, B: -1, C: 3, L: []int{-1, 2, 2}, Cases: []api.Case{{L: []int{8}, Body: 9}, {Body: -1}}}
	if got := code.Kids(x); !slices.Equal(got, []int{5, 3, -1, 2, 2, 9, -1}) {
		t.Errorf("Kids: %v", got)
	}
	if got := code.Kids(api.Cnode{}); !slices.Equal(got, []int{0, 0, 0}) {
		t.Errorf("Kids of a zero node: %v", got)
	}
	for kind := -1; kind < 20; kind++ {
		if got := code.Leaf(kind); !reflect.DeepEqual(got, api.Cnode{Kind: kind, A: -1, B: -1, C: -1}) || len(code.Kids(got)) != 0 {
			t.Errorf("Leaf: %v", got)
		}
	}
	c := api.Code{Funcs: []api.Func{{Name: "a"}, {Name: "b"}, {Name: ""}, {Name: "b"}}}
	for s, want := range map[string]int{"a": 0, "b": 1, "": 2, "c": -1} {
		if got := code.Find(c, s); got != want {
			t.Errorf("Find %q: %d", s, got)
		}
	}
	if code.Find(api.Code{}, "a") != -1 {
		t.Errorf("Find in none")
	}
}

// mixed is good with its nodes in another order.
func mixed() (api.Code, []int) {
	c := good()
	to := make([]int, len(c.L))
	for i := range to {
		to[i] = (i*5 + 3) % len(to)
	}
	// A child must stand behind: the order is that of how deep nodes are, then by to.
	deep := make([]int, len(c.L))
	var order []int
	for i, x := range c.L {
		for _, k := range code.Kids(x) {
			deep[k] = deep[i] + 1
		}
		order = append(order, i)
	}
	slices.SortFunc(order, func(a, b int) int {
		if deep[a] != deep[b] {
			return deep[a] - deep[b]
		}
		return to[a] - to[b]
	})
	at := make([]int, len(c.L))
	for n, i := range order {
		at[i] = n
	}
	r := good()
	for i := range r.Funcs {
		r.Funcs[i].Body = at[r.Funcs[i].Body]
	}
	for i, x := range good().L {
		for _, k := range []*int{&x.A, &x.B, &x.C} {
			if *k != -1 {
				*k = at[*k]
			}
		}
		for j := range x.L {
			x.L[j] = at[x.L[j]]
		}
		for j := range x.Cases {
			x.Cases[j].Body = at[x.Cases[j].Body]
		}
		r.L[at[i]] = x
	}
	return r, order
}

// Promises 26.2 and 26.3: in order.
func TestNorm(t *testing.T) {
	n, e := code.Norm(good())
	if e != api.OK {
		t.Fatalf("%v", e)
	}
	if len(n.L) != len(good().L) || n.Funcs[1].Body != 36 {
		t.Errorf("%v", n.L)
	}
	seen := -1
	var below func(i int)
	below = func(i int) {
		if i != seen+1 {
			t.Fatalf("%d behind %d", i, seen)
		}
		seen = i
		for _, k := range code.Kids(n.L[i]) {
			below(k)
		}
	}
	for _, f := range n.Funcs {
		below(f.Body)
	}
	again, e := code.Norm(n)
	if e != api.OK || !reflect.DeepEqual(again, n) {
		t.Errorf("in order it does not stay")
	}
	m, order := mixed()
	before, _ := mixed()
	got, e := code.Norm(m)
	if e != api.OK || !reflect.DeepEqual(got, n) || slices.IsSorted(order) || !code.Same(m, good()) || !code.Same(n, m) {
		t.Errorf("of another order: %v", e)
	}
	got.Structs[0].L[0].Name, got.Funcs[0].Params[0].Name, got.L[0].L[0], got.L[26].Name = "z", "z", 9, "z"
	for i := range got.L {
		if len(got.L[i].Cases) > 0 {
			got.L[i].Cases[0].L[0] = 9
		}
	}
	if !reflect.DeepEqual(m, before) {
		t.Errorf("what was told shares something, or what was handed in has changed")
	}
}

// Promise 26.2: what is the same.
func TestSame(t *testing.T) {
	for i, f := range []func(c *api.Code){
		func(c *api.Code) { c.Name = "q" },
		func(c *api.Code) { c.Structs = c.Structs[:1] },
		func(c *api.Code) { c.Structs[0].Name = "t" },
		func(c *api.Code) { c.Structs[0].L[0].Type = "bool" },
		func(c *api.Code) { c.Structs[1].L = []api.Field{{}} },
		func(c *api.Code) { c.Funcs[0].Name = "g" },
		func(c *api.Code) { c.Funcs[0].Params[0].Name = "y" },
		func(c *api.Code) { c.Funcs[1].Result = "int" },
		func(c *api.Code) { c.Funcs[0], c.Funcs[1] = c.Funcs[1], c.Funcs[0] },
		func(c *api.Code) { c.Funcs[0].Body, c.Funcs[1].Body = 36, 0 },
		func(c *api.Code) { c.L[3].N = 5 },
		func(c *api.Code) { c.L[6].Name = "y" },
		func(c *api.Code) { c.L[4].Kind = api.XNot },
		func(c *api.Code) { c.L[2].A, c.L[2].B = 4, 3 },
		func(c *api.Code) { c.L[0].L[0], c.L[0].L[6] = 34, 1 },
		func(c *api.Code) { c.L[26].Cases[1].L[0] = 3 },
		func(c *api.Code) { c.L[26].Cases[1].L = []int{0, 0} },
		func(c *api.Code) { c.L[26].Cases[0], c.L[26].Cases[1] = c.L[26].Cases[1], c.L[26].Cases[0] },
		func(c *api.Code) { c.L[2].N = api.OOr },
	} {
		c := good()
		f(&c)
		if code.May(c) != api.OK || code.Same(c, good()) || code.Same(good(), c) {
			t.Errorf("%d: %v, or counts as the same", i, code.May(c))
		}
	}
	c := good()
	c.Structs[1].L, c.Funcs[1].Params, c.L[17].L, c.L[3].Cases = []api.Field{}, []api.Field{}, []int{}, []api.Case{}
	if !code.Same(c, good()) {
		t.Errorf("an empty list is not as none")
	}
}
