package machine_test

import (
	"fmt"
	"math"
	"reflect"
	"testing"

	"gramarye/api"
	"gramarye/machine"
	"gramarye/parse"
	"gramarye/types"
)

const things = `
type s struct {
	n int
	b bool
	next *s
	e *e
}

type e struct {
}

func add(x int, y int) int {
	return x + y
}

func none() {
}

func set(p *s, n int) bool {
	p.n = n
	return true
}

func deep(n int) int {
	if n == 0 {
		return 0
	}
	return 1 + deep(n - 1)
}

func forever() {
	for true {
	}
}
`

// read reads a program whose function f has no parameters, and these lines.
func read(t *testing.T, result, body string) api.Code {
	t.Helper()
	c, at, e := parse.Parse("package p\nfunc f() " + result + " {\n" + body + "}\n" + things)
	if e != api.OK {
		t.Fatalf("%q: %d, %v", body, at, e)
	}
	if at, e := types.Check(c); e != api.OK {
		t.Fatalf("%q: %d, %v", body, at, e)
	}
	return c
}

func num(n int64) api.Val { return api.Val{Kind: api.VInt, N: n} }
func ref(n int64) api.Val { return api.Val{Kind: api.VRef, N: n} }
func yes(n int64) api.Val { return api.Val{Kind: api.VBool, N: n} }

var null = api.Val{Kind: api.VNil}

// Promise 34.1: values, and how many steps they take.
func TestValues(t *testing.T) {
	round := int64(math.MaxInt32)
	round *= round * 4
	round += round
	for _, x := range []struct {
		result, body string
		want         api.Val
		steps        int
	}{
		{"int", "return 1 + 2\n", num(3), 5},
		{"int", "return 7\n", num(7), 3},
		{"bool", "return true\n", yes(1), 3},
		{"*s", "return nil\n", null, 3},
		{"", "", api.Val{}, 1},
		{"", "return\n", api.Val{}, 2},
		{"", "none()\n", api.Val{}, 4},
		{"", "add(1, 2)\n", api.Val{}, 10},
		{"int", "return -5\n", num(-5), 4},
		{"bool", "return !true\n", yes(0), 4},
		{"bool", "return !!true\n", yes(1), 5},
		{"int", "return 7 - 9\n", num(-2), 5},
		{"int", "return 3 * -4\n", num(-12), 6},
		{"bool", "return 1 < 2\n", yes(1), 5}, {"bool", "return 2 < 2\n", yes(0), 5}, {"bool", "return 2 <= 2\n", yes(1), 5}, {"bool", "return 3 <= 2\n", yes(0), 5}, {"bool", "return -1 < 0\n", yes(1), 6},
		{"bool", "return 1 == 1\n", yes(1), 5}, {"bool", "return 1 != 1\n", yes(0), 5}, {"bool", "return true == false\n", yes(0), 5}, {"bool", "return true != false\n", yes(1), 5},
		{"bool", "return true || false\n", yes(1), 4}, {"bool", "return false || true\n", yes(1), 5}, {"bool", "return false || false\n", yes(0), 5},
		{"bool", "return true && false\n", yes(0), 5}, {"bool", "return false && true\n", yes(0), 4}, {"bool", "return true && true\n", yes(1), 5},
		{"bool", "return false || true && 1 < 2\n", yes(1), 9},
		{"bool", "return new(s) == nil\n", yes(0), 5}, {"bool", "return nil != new(s)\n", yes(1), 5}, {"bool", "return new(s) == new(s)\n", yes(0), 5}, {"bool", "x := new(s)\nreturn x == x\n", yes(1), 7}, {"bool", "x := new(s)\nreturn x.next == nil\n", yes(1), 8},
		{"int", "return new(s).n\n", num(0), 4}, {"bool", "return new(s).b\n", yes(0), 4}, {"*s", "return new(s).next\n", null, 4}, {"*e", "return new(e)\n", ref(0), 3},
		{"int", "x := 5\nreturn x\n", num(5), 5},
		{"int", "x := 5\nx = x + 1\nreturn x\n", num(6), 10},
		{"*s", "x := new(s)\nx.n = 4\nx.next = x\nreturn x.next\n", ref(0), 14},
		{"int", "x := new(s)\nx.next = new(s)\nx.next.n = 4\nreturn x.next.n\n", num(4), 1 + 2 + 4 + 5 + 4},
		{"int", "return add(3, 4)\n", num(7), 3 + 2 + 5},
		{"int", "return add(add(1, 2), add(3, 4))\n", num(10), 2 + 1 + 2*8 + 5},
		{"int", "x := 1\nif x == 1 {\nx = 2\n} else {\nx = 3\n}\nreturn x\n", num(2), 1 + 2 + 1 + 3 + 1 + 3 + 2},
		{"int", "x := 1\nif x == 2 {\nx = 2\n} else if x == 1 {\nx = 3\n}\nreturn x\n", num(3), 1 + 2 + 1 + 3 + 1 + 3 + 1 + 3 + 2},
		{"int", "x := 1\nif x == 2 {\nx = 2\n}\nreturn x\n", num(1), 1 + 2 + 1 + 3 + 2},
		{"int", "x := 0\nfor x < 3 {\nx = x + 1\n}\nreturn x\n", num(3), 1 + 2 + 3*(1+3+1+5) + 1 + 3 + 2},
		{"int", "for true {\nreturn 9\n}\nreturn 1\n", num(9), 1 + 2 + 1 + 2},
		{"int", "x := 2\nswitch x {\ncase 1:\nx = 10\ncase 5, 2:\nx = 20\ncase 3:\nx = 30\n}\nreturn x\n", num(20), 1 + 2 + 2 + 1 + 3 + 2},
		{"int", "x := 7\nswitch x {\ncase 1:\nx = 10\ndefault:\nx = 20\n}\nreturn x\n", num(20), 1 + 2 + 2 + 1 + 3 + 2},
		{"int", "x := 7\nswitch x {\ncase 1:\nx = 10\n}\nreturn x\n", num(7), 1 + 2 + 2 + 2},
		{"int", "x := 7\nswitch x {\n}\nreturn x\n", num(7), 7},
		{"int", "return look(0)\n", num(11), 4}, {"int", "return look(2)\n", num(-33), 4}, {"int", "return look(3)\n", num(0), 4}, {"int", "return look(-1)\n", num(0), 5}, {"int", "return look(0 - 2147483647 * 4)\n", num(0), 8},
		{"", "look(0)\n", api.Val{}, 4},
		{"int", "return deep(3)\n", num(3), 0},
		{"int", "x := 2147483647 * 2147483647\nx = x * 4\nreturn x + x\n", num(round), 0},
		{"int", "if true {\nx := 1\n}\nif true {\nx := true\nif x {\nreturn 5\n}\n}\nx := 6\nreturn x\n", num(5), 0},
		{"int", "x := 0\ni := 0\nfor i < 3 {\nj := i\nj = j + 1\nx = x + j\ni = i + 1\n}\nreturn x\n", num(6), 0},
		{"bool", "p := new(s)\nif set(p, 1) || set(p, 2) {\nreturn p.n == 1\n}\nreturn false\n", yes(1), 0},
		{"bool", "p := new(s)\nif !set(p, 1) && set(p, 2) {\nreturn false\n}\nreturn p.n == 1\n", yes(1), 0},
		{"int", "p := new(s)\np.n = 5\nq := p\nq.n = q.n + 1\nreturn p.n\n", num(6), 0},
	} {
		c := read(t, x.result, x.body)
		out, e := machine.Run(c, "f", []int{11, 22, -33}, 1000)
		if e != api.OK || out.Kind != api.OutDone || out.V != x.want || x.steps != 0 && out.Steps != x.steps {
			t.Errorf("%q: %v, %v, want %v, %d", x.body, out, e, x.want, x.steps)
		}
		fuel(t, c, out)
	}
}

// Promise 34.1: the first function may be called, too; what stands behind a return is not done.
func TestFirst(t *testing.T) {
	c, _, _ := parse.Parse("package p\nfunc one() int {\nreturn 5\n}\nfunc void(p *s) {\nreturn\np.n = 7\n}\ntype s struct {\nn int\n}\nfunc f() int {\np := new(s)\nvoid(p)\nreturn one() + p.n\n}\nfunc g() {\nreturn\ng()\n}\n")
	if out, e := machine.Run(c, "f", nil, 100); e != api.OK || out.Kind != api.OutDone || out.V != num(5) || out.Steps != 1+2+5+3+3+2 {
		t.Errorf("%v, %v", out, e)
	}
	if out, e := machine.Run(c, "one", nil, 100); e != api.OK || out.V != num(5) {
		t.Errorf("%v, %v", out, e)
	}
	if out, e := machine.Run(c, "g", nil, 100); e != api.OK || out.Kind != api.OutDone || out.Steps != 2 {
		t.Errorf("%v, %v", out, e)
	}
}

// Promises 34.2 and 34.3: with less fuel the run ends where it must, with more it comes to the same.
func fuel(t *testing.T, c api.Code, want api.Outcome) {
	t.Helper()
	w := []int{11, 22, -33}
	for n := range want.Steps + 2 {
		out, e := machine.Run(c, "f", w, n)
		steps, ok := machine.Steps(c, "f", w, n)
		if e != api.OK || steps != min(n, want.Steps) || ok != (n >= want.Steps) || out.Steps != steps {
			t.Fatalf("fuel %d: %v, %v, %d, %v, want %d steps", n, out.Kind, e, steps, ok, want.Steps)
		}
		if n < want.Steps && (out.Kind != api.OutFuel || out.V != (api.Val{}) || len(out.L) > len(want.L)) || n >= want.Steps && !reflect.DeepEqual(out, want) {
			t.Fatalf("fuel %d: %v, want %v", n, out, want)
		}
	}
	if out, _ := machine.Run(c, "f", w, math.MaxInt); !reflect.DeepEqual(out, want) {
		t.Fatalf("all fuel: %v, want %v", out, want)
	}
}

// Promise 34.1: objects, and what ends a run otherwise.
func TestOutcomes(t *testing.T) {
	object := func(typ int, l ...api.Val) api.Object { return api.Object{Type: typ, L: l} }
	for _, x := range []struct {
		result, body string
		want         api.Outcome
	}{
		{"*s", "x := new(s)\ny := new(e)\nx.n = -1\nx.e = y\nx.b = true\nreturn x\n", api.Outcome{Kind: api.OutDone, V: ref(0), Steps: 20, L: []api.Object{object(0, num(-1), yes(1), null, ref(1)), object(1)}}},
		{"int", "return new(s).next.n\n", api.Outcome{Kind: api.OutNil, Steps: 5, L: []api.Object{object(0, num(0), yes(0), null, null)}}},
		{"", "x := new(s)\nx.next.n = 7\n", api.Outcome{Kind: api.OutNil, Steps: 8, L: []api.Object{object(0, num(0), yes(0), null, null)}}},
		{"", "x := new(s)\nx.next.n = look(0)\n", api.Outcome{Kind: api.OutNil, Steps: 9, L: []api.Object{object(0, num(0), yes(0), null, null)}}},
		{"", "x := new(s)\nx.next.e = new(e)\n", api.Outcome{Kind: api.OutNil, Steps: 8, L: []api.Object{object(0, num(0), yes(0), null, null), object(1)}}},
		{"int", "x := new(s)\nx = nil\nreturn x.n\n", api.Outcome{Kind: api.OutNil, Steps: 9, L: []api.Object{object(0, num(0), yes(0), null, null)}}},
	} {
		c := read(t, x.result, x.body)
		out, e := machine.Run(c, "f", nil, 1000)
		for i := range out.L {
			if len(out.L[i].L) == 0 {
				out.L[i].L = nil
			}
		}
		if e != api.OK || !reflect.DeepEqual(out, x.want) {
			t.Errorf("%q: %v, %v, want %v", x.body, out, e, x.want)
		}
		if out, _ := machine.Run(c, "f", nil, x.want.Steps-1); out.Kind != api.OutFuel || out.Steps != x.want.Steps-1 {
			t.Errorf("%q, with less fuel: %v", x.body, out)
		}
	}
}

// Promise 34.1: as many calls, and objects, as there can be.
func TestLimits(t *testing.T) {
	for n, want := range map[int]int{9998: api.OutDone, 9999: api.OutDeep, 20000: api.OutDeep} {
		c := read(t, "int", fmt.Sprintf("return deep(%d)\n", n))
		out, e := machine.Run(c, "f", nil, 1000000)
		if e != api.OK || out.Kind != want || want == api.OutDone && out.V != num(int64(n)) || want != api.OutDone && out.V != (api.Val{}) {
			t.Errorf("deep %d: %v, %v, %v", n, out.Kind, out.V, e)
		}
		if want == api.OutDeep {
			// f's body, its return and its call of a number; in each of 9999 calls the body, the if, what it asks, the return, the sum, the 1, the call, its member; and the last call is not made.
			if steps := 4 + 9999*(1+1+3+1+1+1+1+3); out.Steps != steps {
				t.Errorf("deep %d: %d steps, want %d", n, out.Steps, steps)
			}
		}
	}
	for n, want := range map[int]int{100000: api.OutDone, 100001: api.OutFull} {
		c := read(t, "int", fmt.Sprintf("i := 0\nfor i < %d {\nnone()\nx := new(e)\ni = i + 1\n}\nreturn i\n", n))
		out, e := machine.Run(c, "f", nil, 10000000)
		if e != api.OK || out.Kind != want || len(out.L) != 100000 || want == api.OutFull && out.V != (api.Val{}) {
			t.Errorf("%d objects: %v, %v, %v", n, out.Kind, len(out.L), e)
		}
	}
	c := read(t, "", "forever()\n")
	if steps, ok := machine.Steps(c, "f", nil, 1000003); steps != 1000003 || ok {
		t.Errorf("forever: %d, %v", steps, ok)
	}
	if out, e := machine.Run(c, "forever", nil, 7); out.Kind != api.OutFuel || out.Steps != 7 || e != api.OK {
		t.Errorf("forever: %v, %v", out, e)
	}
}

// Promises 34.1 and 34.2: errors, in their order.
func TestWrong(t *testing.T) {
	good := read(t, "int", "return 1\n")
	typed := read(t, "int", "return 1\n")
	typed.Funcs[0].Result = "bool"
	named := read(t, "int", "return 1\n")
	named.Name = ""
	form := read(t, "int", "return 1\n")
	form.L[0].N = 1
	for i, x := range []struct {
		c    api.Code
		name string
		fuel int
		want api.Errno
	}{
		{form, "x", -1, api.ErrForm}, {named, "x", -1, api.ErrScope}, {typed, "x", -1, api.ErrType}, {good, "x", -1, api.ErrNone}, {good, "", 1, api.ErrNone}, {good, "look", 1, api.ErrNone}, {good, "add", -1, api.ErrNone}, {good, "set", 9, api.ErrNone}, {good, "deep", 9, api.ErrNone}, {good, "f", -1, api.ErrArg}, {good, "f", math.MinInt, api.ErrArg}, {good, "f", 0, api.OK},
	} {
		out, e := machine.Run(x.c, x.name, nil, x.fuel)
		steps, ok := machine.Steps(x.c, x.name, nil, x.fuel)
		if e != x.want || e != api.OK && !reflect.DeepEqual(out, api.Outcome{}) || steps != 0 || ok {
			t.Errorf("%d: %v, %v, %d, %v, want %v", i, out, e, steps, ok, x.want)
		}
	}
	if out, _ := machine.Run(good, "f", nil, 0); out.Kind != api.OutFuel || out.Steps != 0 {
		t.Errorf("without fuel: %v", out)
	}
}
