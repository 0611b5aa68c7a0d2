package pack_test

import (
	"math"
	"reflect"
	"slices"
	"testing"

	"gramarye/pack"
	"gramarye/tuple"
)

// equal holds two lists against each other; one without members may be nil.
func equal[T comparable](a, b []T) bool { return slices.Equal(a, b) }

// lists are some lists, not all of them sets.
var lists = [][]string{
	nil, {}, {""}, {"a"}, {"b", "a"}, {"a", "a"}, {"", "a", "ab", "abc", "b"}, {"c", "", "a", "c", "b", ""}, {"\x00", "\x01\x00", "\xff"}, {"\xff", "\x7f", "\x80"}, {"ab", "b", "ba"}, {"bb", "ba"},
}

// naive is the set of some texts by going through all that there could be.
func naive(l []string) []string {
	var r []string
	for _, x := range l {
		if !slices.Contains(r, x) {
			r = append(r, x)
		}
	}
	slices.Sort(r)
	return r
}

// Promise 13.1, of Make, Is, Has, Same.
func TestMake(t *testing.T) {
	for _, l := range lists {
		before := slices.Clone(l)
		s := pack.Make(l...)
		if !equal(s, naive(l)) || !pack.Is(s) || pack.Is(l) != equal(l, s) {
			t.Errorf("Make(%q): %q; a set: %v", l, s, pack.Is(l))
		}
		for _, x := range []string{"", "a", "b", "c", "abc", "\xff", "ba"} {
			if pack.Has(l, x) != slices.Contains(l, x) {
				t.Errorf("Has(%q, %q)", l, x)
			}
		}
		for _, m := range lists {
			if pack.Same(l, m) != equal(naive(l), naive(m)) {
				t.Errorf("Same(%q, %q): %v", l, m, pack.Same(l, m))
			}
		}
		if len(s) > 0 {
			s[0] = "changed"
		}
		if !equal(l, before) {
			t.Errorf("Make changed %q", before)
		}
	}
	if !pack.Is(nil) || pack.Is([]string{"a", "a"}) || pack.Is([]string{"b", "a"}) || !pack.Is([]string{"\x7f", "\x80"}) {
		t.Errorf("Is")
	}
}

// Promises 13.1, of Join and Meet, and 13.3.
func TestJoin(t *testing.T) {
	for _, a := range lists {
		for _, b := range lists {
			var both []string
			for _, x := range a {
				if slices.Contains(b, x) {
					both = append(both, x)
				}
			}
			j, m := pack.Join(a, b), pack.Meet(a, b)
			if !equal(j, naive(slices.Concat(a, b))) || !equal(m, naive(both)) {
				t.Errorf("%q and %q: joined %q, met %q", a, b, j, m)
			}
			if !equal(j, pack.Join(b, a)) || !equal(m, pack.Meet(b, a)) || !pack.Is(j) || !pack.Is(m) {
				t.Errorf("%q and %q: it hangs on the order", a, b)
			}
			for _, x := range slices.Concat(a, b) {
				if !pack.Has(j, x) {
					t.Errorf("%q is not in what is joined", x)
				}
			}
			for _, x := range m {
				if !pack.Has(a, x) || !pack.Has(b, x) {
					t.Errorf("%q was met, and is not in both", x)
				}
			}
		}
	}
	a := []string{"a", "b"}
	j := pack.Join(a, nil)
	j[0] = "changed"
	if a[0] != "a" {
		t.Errorf("what was told shares something")
	}
}

// Promises 13.2, of Cat, and 13.3.
func TestCat(t *testing.T) {
	if got := pack.Cat([]string{"a", "ab"}, []string{"c"}, 2); !equal(got, []string{"ab", "ac"}) {
		t.Errorf("example: %q", got)
	}
	for _, a := range lists {
		for _, b := range lists {
			for _, k := range []int{-1, math.MinInt, 0, 1, 2, 3, 4, 9, math.MaxInt} {
				var all []string
				for _, x := range a {
					for _, y := range b {
						all = append(all, tuple.Cat(x, y, k))
					}
				}
				if got := pack.Cat(a, b, k); !equal(got, naive(all)) {
					t.Errorf("Cat(%q, %q, %d): %q, want %q", a, b, k, got, naive(all))
				}
				for _, c := range lists[:8] {
					if !equal(pack.Cat(pack.Join(a, c), b, k), pack.Join(pack.Cat(a, b, k), pack.Cat(c, b, k))) || !equal(pack.Cat(b, pack.Join(a, c), k), pack.Join(pack.Cat(b, a, k), pack.Cat(b, c, k))) {
						t.Errorf("Cat of %q and %q, joined, with %q, of %d", a, c, b, k)
					}
				}
			}
		}
	}
}

// Promise 13.2, of Heads.
func TestHeads(t *testing.T) {
	for _, x := range []struct {
		l    []string
		want []int
	}{
		{nil, nil}, {[]string{""}, nil}, {[]string{"", "\x01", "\x01\x02", "\x00"}, []int{0, 1}}, {[]string{"\xffa", "b", "\xff", "ab"}, []int{97, 98, 255}},
	} {
		if got := pack.Heads(x.l); !equal(got, x.want) {
			t.Errorf("Heads(%q): %v", x.l, got)
		}
	}
}

// What is handed in stays as it is.
func TestStays(t *testing.T) {
	a, b := []string{"c", "a", "c"}, []string{"b", "a"}
	pack.Join(a, b)
	pack.Meet(a, b)
	pack.Cat(a, b, 1)
	pack.Heads(a)
	pack.Same(a, b)
	if !reflect.DeepEqual(a, []string{"c", "a", "c"}) || !reflect.DeepEqual(b, []string{"b", "a"}) {
		t.Errorf("changed: %q, %q", a, b)
	}
}
