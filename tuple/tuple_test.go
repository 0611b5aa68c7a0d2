package tuple_test

import (
	"math"
	"testing"

	"gramarye/api"
	"gramarye/tuple"
)

// Promise 12.1, of May.
func TestMay(t *testing.T) {
	for _, x := range []struct {
		t    string
		k    int
		want bool
	}{
		{"", 1, true}, {"", 4, true}, {"", 0, false}, {"", 5, false}, {"", -1, false}, {"", math.MinInt, false}, {"", math.MaxInt, false},
		{"\x01", 1, true}, {"\x00", 1, true}, {"\x3c", 1, true}, {"\x3d", 1, false}, {"\xff", 1, false},
		{"\x01\x02", 1, false}, {"\x01\x02", 2, true}, {"\x01\x02\x03\x04", 4, true}, {"\x01\x02\x03\x04\x05", 4, false},
		{"\x01\x00", 2, true}, {"\x00\x00", 2, true}, {"\x00\x01", 2, false}, {"\x01\x00\x00\x01", 4, false}, {"\x01\x00\x00\x00", 4, true},
		{"\x01\x02\x3d", 4, false},
	} {
		if got := tuple.May(x.t, x.k); got != x.want {
			t.Errorf("May(%q, %d): %v", x.t, x.k, got)
		}
	}
}

// Promises 12.1, of Cat, and 12.3: it does not hang on how three are put together.
func TestCat(t *testing.T) {
	for _, x := range []struct {
		a, b string
		k    int
		want string
	}{
		{"", "", 3, ""}, {"ab", "cd", 3, "abc"}, {"ab", "cd", 2, "ab"}, {"ab", "cd", 1, "a"}, {"ab", "cd", 0, ""},
		{"ab", "cd", -1, ""}, {"ab", "cd", math.MinInt, ""}, {"ab", "cd", 4, "abcd"}, {"ab", "cd", math.MaxInt, "abcd"}, {"", "cd", 1, "c"}, {"a", "", 4, "a"},
	} {
		if got := tuple.Cat(x.a, x.b, x.k); got != x.want {
			t.Errorf("Cat(%q, %q, %d): %q", x.a, x.b, x.k, got)
		}
	}
	l := []string{"", "a", "bc", "def", "ghij"}
	for _, a := range l {
		for _, b := range l {
			for _, c := range l {
				for k := range 7 {
					if tuple.Cat(tuple.Cat(a, b, k), c, k) != tuple.Cat(a, tuple.Cat(b, c, k), k) {
						t.Errorf("%q, %q, %q, of %d", a, b, c, k)
					}
				}
			}
		}
	}
}

// Promise 12.1, of Of.
func TestOf(t *testing.T) {
	for _, x := range []struct {
		l    []int
		want string
	}{
		{nil, ""}, {[]int{0}, "\x00"}, {[]int{1, 2, 60}, "\x01\x02\x3c"}, {[]int{255, 256, 257, 511}, "\xff\x00\x01\xff"},
		{[]int{-1, -256, -257}, "\xff\x00\xff"}, {[]int{math.MinInt, math.MaxInt}, "\x00\xff"},
	} {
		if got := tuple.Of(x.l...); got != x.want {
			t.Errorf("Of(%v): %q", x.l, got)
		}
	}
}

// Promise 12.2, of At.
func TestAt(t *testing.T) {
	for _, x := range []struct {
		w     []int
		at, k int
		want  string
	}{
		{[]int{1, 2}, 1, 3, "\x02\x00\x00"},
		{[]int{1, 2}, 0, 2, "\x01\x02"},
		{[]int{1, 2}, 0, 1, "\x01"},
		{[]int{1, 2}, 0, 0, ""},
		{[]int{1, 2}, 0, -1, ""},
		{[]int{1, 2}, 0, math.MinInt, ""},
		{[]int{1, 2, 3, 4, 5}, 0, 5, "\x01\x02\x03\x04"},
		{[]int{1, 2, 3, 4, 5}, 1, math.MaxInt, "\x02\x03\x04\x05"},
		{[]int{1, 2}, 2, 4, "\x00\x00\x00\x00"},
		{[]int{1, 2}, -1, 4, "\x00\x01\x02\x00"},
		{[]int{1, 2}, -9, 2, "\x00\x00"},
		{[]int{1, 2}, math.MaxInt, 4, "\x00\x00\x00\x00"},
		{[]int{1, 2}, math.MinInt, 4, "\x00\x00\x00\x00"},
		{nil, 0, 1, "\x00"},
		{[]int{-1, 256, 300}, 0, 3, "\xff\x00\x2c"},
	} {
		if got := tuple.At(x.w, x.at, x.k); got != x.want {
			t.Errorf("At(%v, %d, %d): %q, want %q", x.w, x.at, x.k, got, x.want)
		}
	}
}

// Promise 12.3: tokens ahead of a word of tokens may be, and are whole.
func TestWhole(t *testing.T) {
	w := []int{1, 60, 7, 7, 33}
	for at := 0; at < 8; at++ {
		for k := 1; k <= api.MaxLook; k++ {
			if s := tuple.At(w, at, k); len(s) != k || !tuple.May(s, k) {
				t.Errorf("at %d, of %d: %q", at, k, s)
			}
		}
	}
}

// Promise 12.2, of Text.
func TestText(t *testing.T) {
	names := []string{"A", "B", ""}
	for _, x := range []struct{ t, want string }{
		{"", ""}, {"\x00", "$"}, {"\x01", "A"}, {"\x02\x01\x00", "B A $"}, {"\x03\x01", " A"}, {"\x04\xff\x02", "? ? B"},
	} {
		if got := tuple.Text(x.t, names); got != x.want {
			t.Errorf("Text(%q): %q, want %q", x.t, got, x.want)
		}
	}
	if got := tuple.Text("\x00\x01", nil); got != "$ ?" {
		t.Errorf("without names: %q", got)
	}
}
