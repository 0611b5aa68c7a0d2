// Package whole has the tests of what holds through all layers.
package whole

import (
	"fmt"
	"reflect"
	"slices"
	"strings"
	"testing"

	"gramarye/api"
	"gramarye/bind"
	"gramarye/bnf"
	"gramarye/bound"
	"gramarye/check"
	"gramarye/clash"
	"gramarye/code"
	"gramarye/cost"
	"gramarye/desk"
	"gramarye/diag"
	"gramarye/drive"
	"gramarye/emit"
	"gramarye/fits"
	"gramarye/gram"
	"gramarye/lang"
	"gramarye/parse"
	"gramarye/print"
	"gramarye/rail"
	"gramarye/read"
	"gramarye/run"
	"gramarye/show"
	"gramarye/tree"
	"gramarye/types"
	"gramarye/walk"
)

// dice are numbers that look as if they were drawn, and are always the same.
type dice struct{ n uint64 }

func (d *dice) below(n int) int {
	d.n = d.n*6364136223846793005 + 1442695040888963407
	return int(d.n>>33) % n
}

// grammar makes a grammar of some rules.
func (d *dice) grammar() api.Grammar {
	g := api.Grammar{Name: "g", Look: 1 + d.below(3)}
	for i := range 3 + d.below(4) {
		g.Toks = append(g.Toks, fmt.Sprint("T", i))
	}
	rules := 1 + d.below(3)
	for i := range rules {
		r := api.Rule{Name: fmt.Sprint("r", i), Root: len(g.L)}
		for d.below(3) == 0 {
			r.Sync = append(r.Sync, g.Toks[d.below(len(g.Toks))])
		}
		d.node(&g, rules, 1+d.below(3))
		g.Rules = append(g.Rules, r)
	}
	return g
}

// node makes a node, with all below it, at most so deep, and tells its place.
func (d *dice) node(g *api.Grammar, rules, deep int) int {
	i := len(g.L)
	x := api.Node{}
	if d.below(6) == 0 {
		x.Label = []string{"l", "m", "n"}[d.below(3)]
	}
	kids := 0
	switch k := d.below(12); {
	case deep == 0 || k < 3:
		x.Kind, x.Name = api.KTok, g.Toks[d.below(len(g.Toks))]
		if d.below(4) == 0 {
			x.Kind, x.Name = api.KRef, fmt.Sprint("r", d.below(rules))
		}
	case k < 6:
		x.Kind, kids = api.KSeq, []int{0, 2, 2, 3, 3, 4}[d.below(6)]
	case k < 9:
		x.Kind, kids = api.KAlt, 2+d.below(2)
	default:
		x.Kind, kids = []int{api.KOpt, api.KStar, api.KPlus}[k-9], 1
	}
	g.L = append(g.L, x)
	for range kids {
		c := d.node(g, rules, deep-1)
		g.L[i].L = append(g.L[i].L, c)
	}
	return i
}

// word makes a word: by the grammar, and then now and then changed.
func (d *dice) word(g api.Grammar) []int {
	var w []int
	var node func(i, deep int)
	node = func(i, deep int) {
		x := g.L[i]
		if deep > 12 || len(w) > 40 {
			return
		}
		switch x.Kind {
		case api.KTok:
			w = append(w, x.N)
		case api.KRef:
			node(g.Rules[x.N].Root, deep+1)
		case api.KSeq:
			for _, c := range x.L {
				node(c, deep)
			}
		case api.KAlt:
			node(x.L[d.below(len(x.L))], deep+1)
		default:
			n := d.below(3)
			if x.Kind == api.KOpt {
				n = min(n, 1)
			}
			if x.Kind == api.KPlus {
				n++
			}
			for range n {
				node(x.L[0], deep+1)
			}
		}
	}
	node(g.Rules[0].Root, 0)
	for d.below(3) == 0 {
		at, tok := d.below(len(w)+1), 1+d.below(len(g.Toks))
		switch d.below(3) {
		case 0:
			w = slices.Insert(w, at, tok)
		case 1:
			if at < len(w) {
				w = slices.Delete(w, at, at+1)
			}
		case 2:
			if at < len(w) {
				w[at] = tok
			}
		}
	}
	return w
}

// TestGrammars: T1 to T6, of many grammars, and many words of each.
func TestGrammars(t *testing.T) {
	d := &dice{7}
	accepted, refused, words, good := 0, map[api.Errno]int{}, 0, 0
	for n := 0; n < 6000 && accepted < 150; n++ {
		g := d.grammar()
		text, e := show.Print(g)
		if e != api.OK {
			t.Fatalf("%v", e)
		}
		back, _, e := read.Parse(text)
		if e != api.OK || !gram.Same(back, g) {
			t.Fatalf("%s: %v", text, e)
		}
		h, faults := drive.Grammar(text)
		if len(faults) > 0 {
			refused[faults[0].E]++
			whyNot(t, g, text, faults)
			continue
		}
		accepted++
		program(t, h, text)
		for range 12 {
			w := d.word(h)
			words++
			if oneWord(t, h, w) {
				good++
			}
		}
	}
	t.Logf("%d accepted, refused %v, %d words, %d good", accepted, refused, words, good)
	if accepted < 150 || len(refused) < 3 || good < words/5 || good > words*9/10 {
		t.Errorf("%d accepted, refused %v, %d words, %d good", accepted, refused, words, good)
	}
}

// whyNot asks that a text with faults is really none that could be accepted (T3).
func whyNot(t *testing.T, g api.Grammar, text string, faults []drive.Fault) {
	t.Helper()
	for _, f := range faults {
		if f.Pos < 0 || f.Pos > len(text) || f.E != faults[0].E {
			t.Fatalf("%s: %v", text, faults)
		}
	}
	b, _, e := bind.Bind(g)
	if e != api.OK {
		return
	}
	plain, e := bnf.Of(b)
	if e != api.OK {
		t.Fatalf("%s: %v", text, e)
	}
	if e := clash.Check(plain); e != faults[0].E {
		t.Fatalf("%s: %v, %v", text, e, faults)
	}
	if _, e := emit.Code(b); e != faults[0].E {
		t.Fatalf("%s: a program: %v", text, e)
	}
	if _, _, e := walk.Walk(b, nil); e != faults[0].E {
		t.Fatalf("%s: walked: %v", text, e)
	}
}

// program asks what holds of a grammar that is accepted, and its program (T1, T5, T6).
func program(t *testing.T, g api.Grammar, text string) {
	t.Helper()
	s, faults := drive.Generate(text)
	c, e := emit.Code(g)
	if len(faults) > 0 || e != api.OK || !bind.Bound(g) || !check.Valid(g, s) {
		t.Fatalf("%s: %v, %v", text, faults, e)
	}
	p, at, e := parse.Parse(s)
	if e != api.OK || !code.Same(p, c) || !reflect.DeepEqual(p, c) {
		t.Fatalf("%s: %d, %v", text, at, e)
	}
	if again, _ := print.Print(p); again != s {
		t.Fatalf("%s: printed anew it is another text", text)
	}
	if at, e := types.Check(c); e != api.OK {
		t.Fatalf("%s: %d, %v", text, at, e)
	}
	if cost.Most(g) < 2 || cost.Most(g) > api.MaxCost {
		t.Fatalf("%s: costs %d", text, cost.Most(g))
	}
	for n := range g.Rules {
		l, w, h, e := rail.Boxes(g, n)
		if e != api.OK || !rail.Apart(l...) || w < 1 || h < 1 {
			t.Fatalf("%s: %v", text, l)
		}
	}
	if shown := desk.Play(text, "show"); desk.Play(shown, "show\nlook") != shown+desk.Play(text, "look") {
		t.Fatalf("%s: shown %s", text, shown)
	}
}

// oneWord asks what holds of a word (T1, T2, T4), and tells whether it is good.
func oneWord(t *testing.T, g api.Grammar, w []int) bool {
	t.Helper()
	text, _ := show.Print(g)
	b, _ := bnf.Of(g)
	r, wrong, e := walk.Walk(g, w)
	if e != api.OK || tree.May(r) != api.OK {
		t.Fatalf("%s%v: %v", text, w, e)
	}
	n, e := lang.Count(b, 0, w[:min(len(w), 60)])
	if len(w) <= 60 && (e != api.OK || n > 1 || (n == 1) != (len(wrong) == 0)) {
		t.Fatalf("%s%v: %d derivations, %v, wrong %v", text, w, n, e, wrong)
	}
	if len(wrong) == 0 && (!tree.Clean(r) || !slices.Equal(tree.Word(r), w)) || len(wrong) > 0 && tree.Clean(r) {
		t.Fatalf("%s%v: %v", text, w, r)
	}
	for i, at := range tree.Places(r) {
		if i != at {
			t.Fatalf("%s%v: places %v", text, w, tree.Places(r))
		}
	}
	if len(tree.Places(r)) != len(w) || !diag.Rises(wrong) || len(wrong) > 0 && wrong[len(wrong)-1].At > len(w) {
		t.Fatalf("%s%v: wrong %v", text, w, wrong)
	}
	if is, e := fits.Fits(g, r); e != api.OK || !is {
		t.Fatalf("%s%v: does not fit, %v", text, w, e)
	}
	if s, e := diag.All(g, wrong); e != api.OK || strings.Count(s, "\n") != len(wrong) {
		t.Fatalf("%s%v: %q, %v", text, w, s, e)
	}
	fuel, e := bound.Fuel(g, len(w))
	got, diags, steps, f := run.Run(g, w, fuel)
	if e != api.OK || f != api.OK || steps > fuel || !tree.Same(got, r) || !slices.Equal(diags, wrong) {
		t.Fatalf("%s%v: %v, %v, %d steps of %d, %v, want %v", text, w, e, f, steps, fuel, diags, wrong)
	}
	return len(wrong) == 0
}
