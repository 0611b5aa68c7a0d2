package emit_test

import (
	"fmt"
	"reflect"
	"slices"
	"strings"
	"testing"

	"gramarye/api"
	"gramarye/bind"
	"gramarye/bnf"
	"gramarye/clash"
	"gramarye/code"
	"gramarye/emit"
	"gramarye/guess"
	"gramarye/parse"
	"gramarye/prelude"
	"gramarye/print"
	"gramarye/read"
	"gramarye/stop"
	"gramarye/types"
)

// bound reads and binds a grammar of the tokens A to F.
func bound(t *testing.T, look int, rules string) api.Grammar {
	t.Helper()
	g, at, e := read.Parse(fmt.Sprintf("grammar g_1; look %d; token A, B, C, D, E, F; %s", look, rules))
	if e != api.OK {
		t.Fatalf("%q: %d, %v", rules, at, e)
	}
	g, at, e = bind.Bind(g)
	if e != api.OK {
		t.Fatalf("%q: %d, %v", rules, at, e)
	}
	return g
}

// head is what each text begins with.
func head() string {
	return "package parser_g_1\n" + strings.TrimPrefix(prelude.Text(), "package prelude\n")
}

const tail = `
func parse() *state {
	s := new(state)
	s.top = new(tree)
	rule_NAME(s, s.top, 0)
	up := s.top.first
	if look(s.at) != 0 {
		tell(s, 3, 0)
		to := s.at
		for look(to) != 0 {
			to = to + 1
		}
		skip(s, up, to)
		up.to = s.at
	}
	return s
}
`

const choose = `
func choose_N(s *state, up *tree) int {
	c := pick_N(s)
	if c == 0 {
		tell(s, 2, N)
		to := s.at
		for !stop_N(look(to)) {
			to = to + 1
		}
		skip(s, up, to)
		c = pick_N(s)
	}
	return c
}
`

// Promise 36.1: two texts as they stand.
func TestText(t *testing.T) {
	for _, x := range []struct {
		look        int
		rules, want string
	}{
		{1, "a: A;", `
func rule_a(s *state, over *tree, label int) {
	up := add(s, over, 1, 0, s.at, label)
	match(s, up, 1, 0)
	up.to = s.at
}
` + strings.ReplaceAll(tail, "NAME", "a")},
		{2, "z sync (F): l=(A m=b | A B)+ C; b sync (D): n=A* | ;", "error"},
		{2, "z sync (F, E): l=(A m=b | A B)+ C; b sync (D): n=D*;", `
func pick_2(s *state) int {
	switch look(s.at) {
	case 1:
		switch look(s.at + 1) {
		case 1:
			return 1
		case 2:
			return 1
		case 3:
			return 1
		case 4:
			return 1
		}
	case 3:
		switch look(s.at + 1) {
		case 0:
			return 2
		}
	}
	return 0
}

func stop_2(t int) bool {
	switch t {
	case 0, 1, 3, 5, 6:
		return true
	}
	return false
}
` + strings.ReplaceAll(choose, "N", "2") + `
func part_2(s *state, up *tree, label int) {
	switch choose_3(s, up) {
	case 1:
		match(s, up, 1, label)
		rule_b(s, up, 2)
	case 2:
		match(s, up, 1, label)
		match(s, up, 2, label)
	default:
		gap(s, up, 3, label)
	}
}

func pick_3(s *state) int {
	switch look(s.at) {
	case 1:
		switch look(s.at + 1) {
		case 1:
			return 1
		case 2:
			return 2
		case 3:
			return 1
		case 4:
			return 1
		}
	}
	return 0
}

func stop_3(t int) bool {
	switch t {
	case 0, 1, 5, 6:
		return true
	}
	return false
}
` + strings.ReplaceAll(choose, "N", "3") + `
func pick_4(s *state) int {
	switch look(s.at) {
	case 1:
		switch look(s.at + 1) {
		case 1:
			return 2
		case 2:
			return 2
		case 3:
			return 2
		case 4:
			return 2
		}
	case 3:
		switch look(s.at + 1) {
		case 0:
			return 2
		}
	case 4:
		switch look(s.at + 1) {
		case 1:
			return 1
		case 3:
			return 1
		case 4:
			return 1
		}
	}
	return 0
}

func stop_4(t int) bool {
	switch t {
	case 0, 1, 3, 4:
		return true
	}
	return false
}
` + strings.ReplaceAll(choose, "N", "4") + `
func rule_z(s *state, over *tree, label int) {
	up := add(s, over, 1, 0, s.at, label)
	part_2(s, up, 1)
	for choose_2(s, up) == 1 {
		part_2(s, up, 1)
	}
	match(s, up, 3, 0)
	up.to = s.at
}

func rule_b(s *state, over *tree, label int) {
	up := add(s, over, 1, 1, s.at, label)
	for choose_4(s, up) == 1 {
		match(s, up, 4, 3)
	}
	up.to = s.at
}
` + strings.ReplaceAll(tail, "NAME", "z")},
	} {
		g := bound(t, x.look, x.rules)
		c, e := emit.Code(g)
		if x.want == "error" {
			if e != api.ErrClash {
				t.Errorf("%q: %v", x.rules, e)
			}
			continue
		}
		s, f := print.Print(c)
		if e != api.OK || f != api.OK || s != head()+x.want {
			t.Errorf("%q: %v, %v\n%s", x.rules, e, f, strings.TrimPrefix(s, head()))
		}
	}
}

// writer writes a grammar's program as text, line by line.
type writer struct {
	g      api.Grammar
	b      api.Bnf
	sets   [][]string
	stops  [][]int
	labels []string
	lines  []string
}

func (w *writer) line(tabs int, format string, l ...any) {
	w.lines = append(w.lines, strings.Repeat("\t", tabs)+fmt.Sprintf(format, l...))
}

// cases writes the switch of all guesses of n that begin with those tokens.
func (w *writer) cases(n int, ahead string, tabs int) {
	at := "s.at"
	if len(ahead) > 0 {
		at = fmt.Sprint("s.at + ", len(ahead))
	}
	w.line(tabs, "switch look(%s) {", at)
	for tok := range 256 {
		next := ahead + string([]byte{byte(tok)})
		for i, p := range bnf.Prods(w.b, n) {
			if !slices.ContainsFunc(w.sets[p], func(s string) bool { return strings.HasPrefix(s, next) }) {
				continue
			}
			w.line(tabs, "case %d:", tok)
			if len(next) == w.g.Look {
				w.line(tabs+1, "return %d", i+1)
			} else {
				w.cases(n, next, tabs+1)
			}
			break
		}
	}
	w.line(tabs, "}")
}

// node writes a node's statements.
func (w *writer) node(i int, label string, tabs int) {
	x := w.g.L[i]
	if x.Label != "" {
		label = fmt.Sprint(1 + slices.Index(w.labels, x.Label))
	}
	n := slices.Index(w.b.Of, i)
	switch x.Kind {
	case api.KTok:
		w.line(tabs, "match(s, up, %d, %s)", 1+slices.Index(w.g.Toks, x.Name), label)
	case api.KRef:
		w.line(tabs, "rule_%s(s, up, %s)", x.Name, label)
	case api.KSeq:
		for _, c := range x.L {
			w.node(c, label, tabs)
		}
	case api.KAlt:
		w.line(tabs, "switch choose_%d(s, up) {", n)
		for j, c := range x.L {
			w.line(tabs, "case %d:", j+1)
			w.node(c, label, tabs+1)
		}
		w.line(tabs, "default:")
		w.line(tabs+1, "gap(s, up, %d, %s)", n, label)
		w.line(tabs, "}")
	case api.KPlus:
		w.line(tabs, "part_%d(s, up, %s)", n, label)
		w.line(tabs, "for choose_%d(s, up) == 1 {", n)
		w.line(tabs+1, "part_%d(s, up, %s)", n, label)
		w.line(tabs, "}")
	default:
		w.line(tabs, "%s choose_%d(s, up) == 1 {", map[int]string{api.KOpt: "if", api.KStar: "for"}[x.Kind], n)
		w.node(x.L[0], label, tabs+1)
		w.line(tabs, "}")
	}
}

// all writes the whole.
func (w *writer) all() string {
	for n, at := range w.b.Of {
		if at < 0 {
			continue
		}
		w.line(0, "")
		w.line(0, "func pick_%d(s *state) int {", n)
		w.cases(n, "", 1)
		w.line(1, "return 0")
		w.line(0, "}")
		w.line(0, "")
		w.line(0, "func stop_%d(t int) bool {", n)
		w.line(1, "switch t {")
		w.line(1, "case %s:", strings.Trim(strings.ReplaceAll(fmt.Sprint(w.stops[n]), " ", ", "), "[]"))
		w.line(2, "return true")
		w.line(1, "}")
		w.line(1, "return false")
		w.line(0, "}")
		w.line(0, "%s", strings.TrimSuffix(strings.ReplaceAll(choose, "N", fmt.Sprint(n)), "\n"))
		if w.g.L[at].Kind == api.KPlus {
			w.line(0, "")
			w.line(0, "func part_%d(s *state, up *tree, label int) {", n)
			w.node(w.g.L[at].L[0], "label", 1)
			w.line(0, "}")
		}
	}
	for n, r := range w.g.Rules {
		w.line(0, "")
		w.line(0, "func rule_%s(s *state, over *tree, label int) {", r.Name)
		w.line(1, "up := add(s, over, 1, %d, s.at, label)", n)
		w.node(r.Root, "0", 1)
		w.line(1, "up.to = s.at")
		w.line(0, "}")
	}
	w.line(0, "%s", strings.TrimSuffix(strings.ReplaceAll(tail, "NAME", w.g.Rules[0].Name), "\n"))
	return head() + strings.Join(w.lines, "\n") + "\n"
}

// grammars are clear, with each kind of node within each other one.
var grammars = []struct {
	look  int
	rules string
}{
	{1, "a: ;"},
	{1, "a: A B* C;"},
	{1, "a: x=b (A y=b)*; b: B | C a D;"},
	{1, "a sync (D): (A | B) D;"},
	{1, "a: l=(A (B | C m=a D)+)? n=b; b: E* ;"},
	{1, "a: l=((A m=(B n=C)+)* D)? E ((E | F) | A B)* ;"},
	{1, "a: (A | (B | C D) E)+ F?; c: A;"},
	{2, "a: A | A B;"},
	{2, "a: (A B | A C)* A D;"},
	{3, "a: b A B | b A C; b: D?;"},
	{4, "a: A A A A | A A A B | b; b: A A B? C;"},
}

// Promises 36.1 to 36.3: programs of grammars, their texts held against such as are written line by line.
func TestCode(t *testing.T) {
	for _, x := range grammars {
		g := bound(t, x.look, x.rules)
		c, e := emit.Code(g)
		if e != api.OK {
			t.Errorf("%q: %v", x.rules, e)
			continue
		}
		b, _ := bnf.Of(g)
		sets, _ := guess.Of(b)
		stops, _ := stop.Of(g)
		w := &writer{g: g, b: b, sets: sets, stops: stops, labels: emit.Labels(g)}
		s, e := print.Print(c)
		if want := w.all(); e != api.OK || s != want {
			t.Errorf("%q: %v\n%s\nwant\n%s", x.rules, e, strings.TrimPrefix(s, head()), strings.TrimPrefix(want, head()))
		}
		if at, e := types.Check(c); at != -1 || e != api.OK {
			t.Errorf("%q: types: %d, %v", x.rules, at, e)
		}
		if n, _ := code.Norm(c); !reflect.DeepEqual(n, c) {
			t.Errorf("%q: not in order", x.rules)
		}
		if p, _, e := parse.Parse(s); e != api.OK || !code.Same(p, c) {
			t.Errorf("%q: read anew: %v", x.rules, e)
		}
	}
}

// Promise 36.2: labels, as nodes stand.
func TestLabels(t *testing.T) {
	g := bound(t, 1, "a: l=A m=(B l=C n=D)?; b: k=E m=F;")
	if got := emit.Labels(g); !slices.Equal(got, []string{"l", "m", "n", "k"}) {
		t.Errorf("%q", got)
	}
	g.L[2].Label = "z"
	if got := emit.Labels(g); !slices.Equal(got, []string{"l", "z", "n", "k", "m"}) || g.L[2].Kind != api.KOpt {
		t.Errorf("%q", got)
	}
	if got := emit.Labels(api.Grammar{}); len(got) != 0 {
		t.Errorf("of none: %q", got)
	}
}

// many reads and binds a grammar of 59 tokens, T0 and so on.
func many(t *testing.T, look int, rules func(toks []string) string) api.Grammar {
	t.Helper()
	var toks []string
	for i := range 59 {
		toks = append(toks, fmt.Sprint("T", i))
	}
	g, at, e := read.Parse(fmt.Sprintf("grammar g; look %d; token %s; %s", look, strings.Join(toks, ", "), rules(toks)))
	if e != api.OK {
		t.Fatalf("%d, %v", at, e)
	}
	g, _, _ = bind.Bind(g)
	return g
}

// crossed is rules where one of so many tokens is followed by two of 24.
func crossed(n int) func(toks []string) string {
	return func(toks []string) string {
		return "a: T0 T0 T0 (" + strings.Join(toks[:n], " | ") + ") b b; b: " + strings.Join(toks[:24], " | ") + ";"
	}
}

// knotted is a rule of so many choices, each in the one ahead of it.
func knotted(n int) func(toks []string) string {
	return func(toks []string) string {
		return "a: " + strings.Join(toks[:n], " | (") + strings.Repeat(")", n-1) + ";"
	}
}

// Promise 36.1: errors, in their order.
func TestWrong(t *testing.T) {
	lost := bound(t, 1, "a: A b; b: B;")
	lost.L[1].N = 2
	costly := "a: b b b b b b b b b; b: c c c c c c; c: " + strings.Repeat("A ", 40) + ";"
	for i, x := range []struct {
		g    api.Grammar
		want api.Errno
	}{
		{api.Grammar{}, api.ErrFull},
		{lost, api.ErrName},
		{bound(t, 1, "a: A a;"), api.ErrDead},
		{bound(t, 1, "a: a A | A;"), api.ErrLeft},
		{bound(t, 1, "a: A | A B;"), api.ErrClash},
		{bound(t, 1, costly), api.ErrLimit},
		{many(t, 3, crossed(2)), api.OK},
		{many(t, 3, crossed(12)), api.ErrLimit},
		{many(t, 3, crossed(59)), api.ErrLimit},
		{many(t, 1, knotted(28)), api.OK},
		{many(t, 1, knotted(38)), api.ErrLimit},
	} {
		b, _ := bnf.Of(x.g)
		if e := clash.Check(b); (x.want == api.OK || x.want == api.ErrLimit) && e != api.OK {
			t.Fatalf("%d: not clear: %v", i, e)
		}
		c, e := emit.Code(x.g)
		if e != x.want || e != api.OK && !reflect.DeepEqual(c, api.Code{}) {
			t.Errorf("%d: %v, want %v", i, e, x.want)
		}
	}
}
