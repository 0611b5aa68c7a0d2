package name_test

import (
	"strconv"
	"strings"
	"testing"

	"gramarye/name"
)

// Promises 2.1 and 2.3: what is a cap, a name, a keyword; and no two of these at once.
func TestKinds(t *testing.T) {
	for _, x := range []struct {
		s              string
		cap, name, key bool
	}{
		{"", false, false, false},
		{"A", true, false, false},
		{"Z9_", true, false, false},
		{"a", false, true, false},
		{"z0_a", false, true, false},
		{"grammar", false, false, true},
		{"look", false, false, true},
		{"sync", false, false, true},
		{"token", false, false, true},
		{"tokens", false, true, false},
		{"toke", false, true, false},
		{"GRAMMAR", true, false, false},
		{"TOKEN", true, false, false},
		{"rule", false, true, false},
		{"Ab", false, false, false},
		{"aB", false, false, false},
		{"_a", false, false, false},
		{"_A", false, false, false},
		{"0a", false, false, false},
		{"9", false, false, false},
		{"a b", false, false, false},
		{"a-b", false, false, false},
		{"a\n", false, false, false},
		{"\u00e9", false, false, false},
		{"A\u00e9", false, false, false},
		{"@", false, false, false},
		{"[", false, false, false},
		{"`", false, false, false},
		{"{", false, false, false},
		{"a/", false, false, false},
		{"a:", false, false, false},
		{strings.Repeat("a", 20), false, true, false},
		{strings.Repeat("a", 21), false, false, false},
		{strings.Repeat("A", 20), true, false, false},
		{strings.Repeat("A", 21), false, false, false},
	} {
		if name.Cap(x.s) != x.cap || name.Name(x.s) != x.name || name.Keyword(x.s) != x.key {
			t.Errorf("%q: cap %v, name %v, keyword %v", x.s, name.Cap(x.s), name.Name(x.s), name.Keyword(x.s))
		}
	}
}

// Promises 2.1 and 2.3, of each byte: first, behind a letter of either kind.
func TestBytes(t *testing.T) {
	for i := 0; i < 256; i++ {
		c := string([]byte{byte(i)})
		low, high := 'a' <= i && i <= 'z', 'A' <= i && i <= 'Z'
		more := '0' <= i && i <= '9' || i == '_'
		if name.Name(c) != low || name.Cap(c) != high {
			t.Errorf("%q alone: name %v, cap %v", c, name.Name(c), name.Cap(c))
		}
		if name.Name("x"+c) != (low || more) || name.Cap("X"+c) != (high || more) {
			t.Errorf("%q behind a letter: name %v, cap %v", c, name.Name("x"+c), name.Cap("X"+c))
		}
		if name.Name("X"+c) || name.Cap("x"+c) {
			t.Errorf("%q behind a letter of the other kind is one", c)
		}
	}
}

// Promise 2.1, of Find and Twice.
func TestFind(t *testing.T) {
	for _, x := range []struct {
		s    string
		l    []string
		want int
	}{
		{"a", nil, -1},
		{"a", []string{"a"}, 0},
		{"a", []string{"b", "a", "a"}, 1},
		{"", []string{"a", ""}, 1},
		{"a", []string{"A", "aa", ""}, -1},
	} {
		if got := name.Find(x.s, x.l...); got != x.want {
			t.Errorf("Find(%q, %q): %d, want %d", x.s, x.l, got, x.want)
		}
	}
	for _, x := range []struct {
		l    []string
		want int
	}{
		{nil, -1},
		{[]string{"a"}, -1},
		{[]string{"a", "A", "", "aa"}, -1},
		{[]string{"a", "a"}, 1},
		{[]string{"a", "b", "c", "b", "a"}, 3},
		{[]string{"", "b", ""}, 2},
		{[]string{"x", "x", "x"}, 1},
	} {
		if got := name.Twice(x.l...); got != x.want {
			t.Errorf("Twice(%q): %d, want %d", x.l, got, x.want)
		}
	}
}

// Promises 2.2 and 2.3: what is fresh.
func TestFresh(t *testing.T) {
	many := []string{"x"}
	for i := 1; i < 12; i++ {
		many = append(many, "x"+strconv.Itoa(i))
	}
	for _, x := range []struct {
		s     string
		taken []string
		want  string
	}{
		{"x", nil, "x"},
		{"x", []string{"y", "x1"}, "x"},
		{"x", []string{"x"}, "x1"},
		{"x", []string{"x", "x1"}, "x2"},
		{"x", []string{"x1", "x2", "x"}, "x3"},
		{"x", []string{"x2", "x"}, "x1"},
		{"", []string{""}, "1"},
		{"x", many, "x12"},
		{"x", []string{"x", "x01", "x1", "x1"}, "x2"},
	} {
		got := name.Fresh(x.s, x.taken...)
		if got != x.want {
			t.Errorf("Fresh(%q, %q): %q, want %q", x.s, x.taken, got, x.want)
		}
		if name.Find(got, x.taken...) >= 0 {
			t.Errorf("Fresh(%q, %q): %q is taken", x.s, x.taken, got)
		}
	}
}

// What is handed in stays as it is.
func TestStays(t *testing.T) {
	l := []string{"b", "a", "b"}
	name.Find("c", l...)
	name.Twice(l...)
	name.Fresh("b", l...)
	if l[0] != "b" || l[1] != "a" || l[2] != "b" {
		t.Errorf("changed: %q", l)
	}
}
