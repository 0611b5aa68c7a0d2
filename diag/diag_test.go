package diag_test

import (
	"math"
	"reflect"
	"strings"
	"testing"

	"gramarye/api"
	"gramarye/bind"
	"gramarye/diag"
	"gramarye/read"
	"gramarye/walk"
)

// bound reads and binds a grammar of the tokens A, B, C.
func bound(t *testing.T, rules string) api.Grammar {
	t.Helper()
	g, at, e := read.Parse("grammar g; look 1; token A, B, C; " + rules)
	if e != api.OK {
		t.Fatalf("%q: %d, %v", rules, at, e)
	}
	g, at, e = bind.Bind(g)
	if e != api.OK {
		t.Fatalf("%q: %d, %v", rules, at, e)
	}
	return g
}

func of(at, kind, n int) api.Diag { return api.Diag{At: at, Kind: kind, N: n} }

const rules = "a: l=(A | m=b+) n=C*; b: (B o=C)?;"

// Promise 25.1: texts.
func TestText(t *testing.T) {
	g := bound(t, rules)
	for _, x := range []struct {
		d    api.Diag
		want string
	}{
		{of(3, api.DToken, 1), "3: A awaited"},
		{of(0, api.DToken, 3), "0: C awaited"},
		{of(api.MaxWord, api.DRest, 0), "1000: end awaited"},
		{of(1, api.DChoice, 2), "1: (A | m=b+) awaited"},
		{of(12, api.DChoice, 3), "12: b+ awaited"},
		{of(0, api.DChoice, 4), "0: C* awaited"},
		{of(0, api.DChoice, 5), "0: (B o=C)? awaited"},
	} {
		if got, e := diag.Text(g, x.d); e != api.OK || got != x.want {
			t.Errorf("%v: %q, %v, want %q", x.d, got, e, x.want)
		}
		if got, e := diag.All(g, []api.Diag{x.d, of(7, api.DRest, 0), x.d}); e != api.OK || got != x.want+"\n7: end awaited\n"+x.want+"\n" {
			t.Errorf("%v, with others: %q, %v", x.d, got, e)
		}
	}
	if got, e := diag.All(g, nil); e != api.OK || got != "" {
		t.Errorf("of none: %q, %v", got, e)
	}
	if !reflect.DeepEqual(g, bound(t, rules)) {
		t.Errorf("changed")
	}
}

// Promise 25.1: a choice that is the first node of all.
func TestFirst(t *testing.T) {
	if got, e := diag.Text(bound(t, "a: l=(A | B);"), of(0, api.DChoice, 1)); e != api.OK || got != "0: (A | B) awaited" {
		t.Errorf("%q, %v", got, e)
	}
}

// Promise 25.1: what may not be.
func TestMayNot(t *testing.T) {
	g := bound(t, rules)
	for _, d := range []api.Diag{
		of(-1, api.DToken, 1), of(api.MaxWord+1, api.DToken, 1), of(math.MinInt, api.DRest, 0), of(math.MaxInt, api.DRest, 0),
		of(0, api.DToken, 0), of(0, api.DToken, 4), of(0, api.DToken, -1), of(0, api.DToken, math.MaxInt),
		of(0, api.DChoice, 0), of(0, api.DChoice, 1), of(0, api.DChoice, 6), of(0, api.DChoice, -1), of(0, api.DChoice, math.MinInt),
		of(0, api.DRest, 1), of(0, api.DRest, -1), of(0, 0, 0), of(0, 4, 1), of(0, -1, 1),
	} {
		if got, e := diag.Text(g, d); e != api.ErrForm || got != "" {
			t.Errorf("%v: %q, %v", d, got, e)
		}
		if got, e := diag.All(g, []api.Diag{of(0, api.DRest, 0), d, of(-1, 0, 0)}); e != api.ErrForm || got != "" {
			t.Errorf("%v, with others: %q, %v", d, got, e)
		}
	}
	lost := bound(t, rules)
	lost.L[2].N = 2
	for _, x := range []struct {
		g    api.Grammar
		want api.Errno
	}{{api.Grammar{}, api.ErrFull}, {lost, api.ErrName}} {
		got, e := diag.Text(x.g, of(-1, 0, 0))
		all, f := diag.All(x.g, nil)
		if e != x.want || f != x.want || got+all != "" {
			t.Errorf("%q, %v, %q, %v, want %v", got, e, all, f, x.want)
		}
	}
}

// Promise 25.2.
func TestRises(t *testing.T) {
	for _, x := range []struct {
		at   []int
		want bool
	}{
		{nil, true}, {[]int{5}, true}, {[]int{-1}, true}, {[]int{0, 1, 7}, true}, {[]int{0, 0}, false}, {[]int{0, 3, 2}, false}, {[]int{1, 0}, false}, {[]int{math.MinInt, math.MaxInt}, true}, {[]int{math.MaxInt, math.MinInt}, false},
	} {
		var l []api.Diag
		for _, at := range x.at {
			l = append(l, of(at, 9, 9))
		}
		if got := diag.Rises(l); got != x.want {
			t.Errorf("%v: %v", x.at, got)
		}
	}
}

// Promise 25.3: of all that layer 23 tells there is a text, a line each.
func TestWalk(t *testing.T) {
	g := bound(t, "a: A b* C; b sync (A): (B | A) C;")
	for n := range 243 {
		var w []int
		for m := n; m > 0; m /= 3 {
			w = append(w, m%3+1)
		}
		_, wrong, e := walk.Walk(g, w)
		s, f := diag.All(g, wrong)
		if e != api.OK || f != api.OK || strings.Count(s, "\n") != len(wrong) || !diag.Rises(wrong) {
			t.Fatalf("%v: %v, %v, %q, %v", w, wrong, e, s, f)
		}
		for i, line := range strings.Split(strings.TrimSuffix(s, "\n"), "\n") {
			if len(wrong) == 0 {
				continue
			}
			if one, _ := diag.Text(g, wrong[i]); one != line {
				t.Fatalf("%v: %q, %q", w, one, line)
			}
		}
	}
}
