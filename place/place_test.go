package place_test

import (
	"math"
	"strings"
	"testing"

	"gramarye/api"
	"gramarye/place"
)

var texts = []string{"", "\n", "a", "a\nbc", "a\n\nb", "\n\n\n", "ab\ncd\n", "a\r\n\tb\n\xff\x00\n\u00e9", strings.Repeat("xy\n", 100)}

// naive tells line and column by going through all that is ahead.
func naive(s string, at int) (int, int) {
	line, column := 1, 1
	for i := 0; i < at; i++ {
		column++
		if s[i] == '\n' {
			line, column = line+1, 1
		}
	}
	return line, column
}

// Promise 1.1, of Of.
func TestOf(t *testing.T) {
	if l, c, e := place.Of("a\nbc", 3); l != 2 || c != 2 || e != api.OK {
		t.Errorf("example: %d, %d, %v", l, c, e)
	}
	for _, s := range texts {
		for at := 0; at <= len(s); at++ {
			line, column, e := place.Of(s, at)
			l, c := naive(s, at)
			if line != l || column != c || e != api.OK {
				t.Errorf("Of(%q, %d): %d, %d, %v, want %d, %d", s, at, line, column, e, l, c)
			}
		}
		for _, at := range []int{-1, math.MinInt, len(s) + 1, math.MaxInt} {
			if l, c, e := place.Of(s, at); l != 0 || c != 0 || e != api.ErrArg {
				t.Errorf("Of(%q, %d): %d, %d, %v, want ErrArg", s, at, l, c, e)
			}
		}
	}
}

// Promises 1.1, of At, and 1.3: all that Of tells is undone, and nothing else is a place.
func TestAt(t *testing.T) {
	for _, s := range texts {
		at := map[[2]int]int{}
		for i := 0; i <= len(s); i++ {
			line, column, _ := place.Of(s, i)
			at[[2]int{line, column}] = i
		}
		for line := -1; line <= len(s)+3; line++ {
			for column := -1; column <= len(s)+3; column++ {
				got, e := place.At(s, line, column)
				want, ok := at[[2]int{line, column}]
				if ok && (got != want || e != api.OK) || !ok && (got != 0 || e != api.ErrNone) {
					t.Errorf("At(%q, %d, %d): %d, %v; there is one: %v, %d", s, line, column, got, e, ok, want)
				}
			}
		}
		for _, x := range [][2]int{{1, math.MaxInt}, {math.MaxInt, 1}, {math.MinInt, 1}, {1, math.MinInt}, {math.MaxInt, math.MaxInt}} {
			if got, e := place.At(s, x[0], x[1]); got != 0 || e != api.ErrNone {
				t.Errorf("At(%q, %v): %d, %v, want ErrNone", s, x, got, e)
			}
		}
	}
}

// Promise 1.1, of Lines.
func TestLines(t *testing.T) {
	for _, s := range texts {
		if got, want := place.Lines(s), strings.Count(s, "\n")+1; got != want {
			t.Errorf("Lines(%q): %d, want %d", s, got, want)
		}
	}
}

// Promise 1.2.
func TestFault(t *testing.T) {
	for _, x := range []struct {
		s    string
		at   int
		e    api.Errno
		want string
	}{
		{"", 0, api.ErrArg, "1:1: error 2"},
		{"a\nbc", 3, api.ErrText, "2:2: error 5"},
		{"a\nbc", 4, api.ErrClash, "2:3: error 14"},
		{"a\nbc", 1, api.ErrRule, "1:2: error 18"},
		{"a\nbc", 5, api.ErrText, "error 5"},
		{"a\nbc", -1, api.ErrLimit, "error 15"},
		{"", 0, api.OK, "1:1: error 0"},
		{strings.Repeat("\n", 120), 120, api.ErrName, "121:1: error 9"},
		{strings.Repeat(" ", 120), 119, api.ErrName, "1:120: error 9"},
	} {
		if got := place.Fault(x.s, x.at, x.e); got != x.want {
			t.Errorf("Fault(%q, %d, %d): %q, want %q", x.s, x.at, int(x.e), got, x.want)
		}
	}
}
