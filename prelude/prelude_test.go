package prelude_test

import (
	"reflect"
	"slices"
	"strings"
	"testing"

	"gramarye/api"
	"gramarye/code"
	"gramarye/machine"
	"gramarye/parse"
	"gramarye/prelude"
	"gramarye/print"
	"gramarye/types"
)

// want is the prelude's text, written once more.
const want = `package prelude

type tree struct {
	kind int
	n int
	at int
	to int
	label int
	first *tree
	last *tree
	next *tree
}

type diag struct {
	at int
	kind int
	n int
	next *diag
}

type state struct {
	at int
	top *tree
	first *diag
	last *diag
}

func add(s *state, up *tree, kind int, n int, to int, label int) *tree {
	t := new(tree)
	t.kind = kind
	t.n = n
	t.at = s.at
	t.to = to
	t.label = label
	if up.last == nil {
		up.first = t
	} else {
		up.last.next = t
	}
	up.last = t
	s.at = to
	return t
}

func tell(s *state, kind int, n int) {
	if s.last != nil && s.last.at == s.at {
		return
	}
	d := new(diag)
	d.at = s.at
	d.kind = kind
	d.n = n
	if s.last == nil {
		s.first = d
	} else {
		s.last.next = d
	}
	s.last = d
}

func skip(s *state, up *tree, to int) {
	if s.at < to {
		add(s, up, 3, 0, to, 0)
	}
}

func match(s *state, up *tree, n int, label int) {
	if look(s.at) != n {
		tell(s, 1, n)
		if look(s.at + 1) != n {
			add(s, up, 4, n, s.at, label)
			return
		}
		skip(s, up, s.at + 1)
	}
	add(s, up, 2, n, s.at + 1, label)
}

func gap(s *state, up *tree, n int, label int) {
	add(s, up, 5, n, s.at, label)
}
`

// Promises 35.1 and 35.3: the text, and what it is.
func TestText(t *testing.T) {
	if prelude.Text() != want || !strings.HasPrefix(want, "package prelude\n\ntype tree") || !strings.HasSuffix(want, "label)\n}\n") {
		t.Errorf("%q", prelude.Text())
	}
	c, at, e := parse.Parse(want)
	if e != api.OK || !reflect.DeepEqual(prelude.Code(), c) || len(c.Structs) != 3 || len(c.Funcs) != 5 {
		t.Errorf("%d, %v", at, e)
	}
	if at, e := types.Check(c); at != -1 || e != api.OK {
		t.Errorf("types: %d, %v", at, e)
	}
	if s, e := print.Print(c); s != want || e != api.OK {
		t.Errorf("printed: %q, %v", s, e)
	}
	n, _ := code.Norm(c)
	if !reflect.DeepEqual(n, c) {
		t.Errorf("not in order")
	}
	if got := prelude.Names(); !slices.Equal(got, []string{"add", "tell", "skip", "match", "gap"}) {
		t.Errorf("names: %q", got)
	}
	d := prelude.Code()
	d.L[0].L[0], d.Structs[0].L[0].Name = 99, "z"
	if !reflect.DeepEqual(prelude.Code(), c) {
		t.Errorf("what was told is shared")
	}
}

// read reads a program.
func read(t *testing.T, s string) api.Code {
	t.Helper()
	c, at, e := parse.Parse(s)
	if e != api.OK {
		t.Fatalf("%q: %d, %v", s, at, e)
	}
	return c
}

// Promise 35.2: a program with the prelude ahead.
func TestInto(t *testing.T) {
	body := "\ntype mine struct {\n\tf *tree\n}\n\nfunc b(x int) {\n\tswitch x {\n\tcase 1, 2:\n\t\treturn\n\tdefault:\n\t\tx = 1\n\t}\n}\n\nfunc parse() *state {\n\ts := new(state)\n\ts.top = new(tree)\n\tmatch(s, s.top, 1, 0)\n\treturn s\n}\n"
	c := read(t, "package p\n"+body)
	// The second function's nodes ahead of the first one's.
	n := len(c.L)
	k := c.Funcs[1].Body
	turn := func(i int) int {
		if i < 0 {
			return i
		}
		return (i + n - k) % n
	}
	d := read(t, "package p\n"+body)
	for i := range d.Funcs {
		d.Funcs[i].Body = turn(d.Funcs[i].Body)
	}
	for i, x := range read(t, "package p\n"+body).L {
		x.A, x.B, x.C = turn(x.A), turn(x.B), turn(x.C)
		for j := range x.L {
			x.L[j] = turn(x.L[j])
		}
		for j := range x.Cases {
			x.Cases[j].Body = turn(x.Cases[j].Body)
		}
		d.L[turn(i)] = x
	}
	for i, c := range []api.Code{c, d} {
		before, _ := code.Norm(c)
		got, e := prelude.Into(c)
		if e != api.OK || code.May(got) != api.OK {
			t.Fatalf("%d: %v", i, e)
		}
		p := prelude.Code()
		if !reflect.DeepEqual(got.L[:len(p.L)], p.L) || !reflect.DeepEqual(got.Structs[:3], p.Structs) || !reflect.DeepEqual(got.Funcs[:5], p.Funcs) || len(got.L) != len(p.L)+len(c.L) {
			t.Errorf("%d: the prelude does not stand ahead", i)
		}
		for j, x := range c.L {
			y := got.L[len(p.L)+j]
			if y.Kind != x.Kind || y.Name != x.Name || x.A >= 0 && y.A != x.A+len(p.L) || x.A < 0 && y.A != -1 {
				t.Errorf("%d: node %d: %v, was %v", i, j, y, x)
			}
		}
		s, e := print.Print(got)
		if want := "package p\n" + strings.SplitN(strings.TrimPrefix(want, "package prelude\n"), "\nfunc", 2)[0] + "\ntype mine struct {\n\tf *tree\n}\n\nfunc" + strings.SplitN(want, "\nfunc", 2)[1] + body[strings.Index(body, "\nfunc"):]; e != api.OK || s != want {
			t.Errorf("%d: %s, %v, want %s", i, s, e, want)
		}
		out, e := machine.Run(got, "parse", []int{1}, 1000)
		if e != api.OK || out.Kind != api.OutDone || len(out.L) != 3 {
			t.Errorf("%d: %v, %v", i, out, e)
		}
		got.L[len(p.L)].L, got.Structs[3].L[0].Name = nil, "z"
		for j := range got.L {
			for k := range got.L[j].L {
				got.L[j].L[k] = 0
			}
			for k := range got.L[j].Cases {
				got.L[j].Cases[k].L[0] = 9
			}
		}
		if after, _ := code.Norm(c); !reflect.DeepEqual(after, before) {
			t.Errorf("%d: what was told shares something", i)
		}
	}
	if got, e := prelude.Into(api.Code{Name: "none"}); e != api.OK || got.Name != "none" || len(got.Funcs) != 5 {
		t.Errorf("%v, %v", got.Name, e)
	}
}

// Promise 35.2: errors.
func TestWrong(t *testing.T) {
	for s, want := range map[string]api.Errno{
		"type tree struct {\n}": api.ErrTwice, "type diag struct {\n}": api.ErrTwice, "type state struct {\n}": api.ErrTwice, "type Tree struct {\n}": api.OK, "type s struct {\ntree int\n}": api.OK,
		"func add() {\n}": api.ErrTwice, "func tell() {\n}": api.ErrTwice, "func skip() {\n}": api.ErrTwice, "func match() {\n}": api.ErrTwice, "func gap(x int) {\n}": api.ErrTwice, "func f() {\n}\nfunc gap() {\n}": api.ErrTwice, "func adds() {\n}": api.OK,
	} {
		got, e := prelude.Into(read(t, "package p\n"+s+"\n"))
		if e != want || e != api.OK && !reflect.DeepEqual(got, api.Code{}) {
			t.Errorf("%q: %v, want %v", s, e, want)
		}
	}
	form := read(t, "package p\nfunc add() {\n}")
	form.L[0].N = 1
	for _, c := range []api.Code{form, {Structs: make([]api.Struct, 101)}} {
		if got, e := prelude.Into(c); e != code.May(c) || e == api.OK || !reflect.DeepEqual(got, api.Code{}) {
			t.Errorf("%v, want %v", e, code.May(c))
		}
	}
}
