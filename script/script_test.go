package script_test

import (
	"fmt"
	"reflect"
	"strings"
	"testing"

	"gramarye/api"
	"gramarye/script"
)

func line(row, kind, n int, words ...string) script.Line {
	return script.Line{Row: row, Kind: kind, N: n, Words: words}
}

// same holds two lists against each other; one without members may be nil.
func same(a, b []script.Line) bool {
	if len(a) != len(b) {
		return false
	}
	for i := range a {
		x, y := a[i], b[i]
		if x.Row != y.Row || x.Kind != y.Kind || x.N != y.N || len(x.Words) != len(y.Words) || len(x.Words) > 0 && !reflect.DeepEqual(x.Words, y.Words) {
			return false
		}
	}
	return true
}

// Promise 43.1: lines.
func TestParse(t *testing.T) {
	if script.Read != 1 || script.Run != 2 || script.Rail != 3 || script.Fuel != 4 || script.Show != 5 || script.Look != 6 {
		t.Errorf("kinds")
	}
	for _, x := range []struct {
		s    string
		want []script.Line
	}{
		{"", nil}, {"\n", nil}, {" \n   \n\n", nil}, {"# $ all of it\n  #x\n#", nil},
		{"read A B", []script.Line{line(1, 1, 0, "A", "B")}},
		{"read", []script.Line{line(1, 1, 0)}},
		{"run\n", []script.Line{line(1, 2, 0)}},
		{"  run   A_1  Z  \n", []script.Line{line(1, 2, 0, "A_1", "Z")}},
		{"\n# x\nrail a\n\nfuel 0\nfuel 2147483647\nshow\nlook", []script.Line{line(3, 3, 0, "a"), line(5, 4, 0, "0"), line(6, 4, 2147483647, "2147483647"), line(7, 5, 0), line(8, 6, 0)}},
		{"read A A A\nshow \n look", []script.Line{line(1, 1, 0, "A", "A", "A"), line(2, 5, 0), line(3, 6, 0)}},
		{strings.Repeat("\n", 60000) + "show", []script.Line{line(60001, 5, 0)}},
	} {
		got, at, e := script.Parse(x.s)
		if e != api.OK || at != 0 || !same(got, x.want) {
			t.Errorf("%.60q: %v, %d, %v, want %v", x.s, got, at, e, x.want)
		}
	}
}

// Promise 43.1: what is wrong, and where.
func TestWrong(t *testing.T) {
	full := strings.Repeat("show\n\n# x\n", 500)
	for _, x := range []struct {
		s  string
		at int
		e  api.Errno
	}{
		{"x", 1, api.ErrText}, {"Read A", 1, api.ErrText}, {"reads A", 1, api.ErrText}, {"\tread", 1, api.ErrText}, {"read\tA", 1, api.ErrText}, {"show\r\n", 1, api.ErrText}, {"show\n\nx\ny", 3, api.ErrText},
		{"read a", 1, api.ErrText}, {"read A b", 1, api.ErrText}, {"read A #", 1, api.ErrText}, {"read " + strings.Repeat("A", 21), 1, api.ErrText}, {"run A,B", 1, api.ErrText}, {"run 1", 1, api.ErrText},
		{"rail", 1, api.ErrText}, {"rail a b", 1, api.ErrText}, {"rail A", 1, api.ErrText}, {"rail token", 1, api.ErrText}, {"rail " + strings.Repeat("a", 21), 1, api.ErrText},
		{"fuel", 1, api.ErrText}, {"fuel 1 2", 1, api.ErrText}, {"fuel 01", 1, api.ErrText}, {"fuel -1", 1, api.ErrText}, {"fuel x", 1, api.ErrText}, {"fuel 2147483648", 1, api.ErrText},
		{"show x", 1, api.ErrText}, {"look 1", 1, api.ErrText}, {"grammar", 1, api.ErrText},
		{full + "look", 1501, api.ErrFull}, {full + "# x\n\nx", 1503, api.ErrFull}, {full + "# x", 0, api.OK}, {"x\n" + full + "look", 1, api.ErrText}, {full[:len(full)-10] + "x\nx\n", 1498, api.ErrText},
		{strings.Repeat(" ", api.MaxText+1), 0, api.ErrLong}, {"x" + strings.Repeat(" ", api.MaxText), 0, api.ErrLong}, {strings.Repeat(" ", api.MaxText), 0, api.OK},
	} {
		got, at, e := script.Parse(x.s)
		if e != x.e || at != x.at || e != api.OK && len(got) > 0 {
			t.Errorf("%.60q: %d lines, %d, %v, want %d, %v", x.s, len(got), at, e, x.at, x.e)
		}
	}
}

// Promise 43.2.
func TestPrint(t *testing.T) {
	for _, x := range []struct {
		l    []script.Line
		want string
	}{
		{nil, ""},
		{[]script.Line{line(9, 1, 0, "A", "B"), line(2, 2, 7), line(0, 3, 0, "a")}, "read A B\nrun\nrail a\n"},
		{[]script.Line{line(1, 4, 12, "x", "y"), line(1, 4, -1), line(1, 4, 1<<40)}, "fuel 12\nfuel 0\nfuel 2147483647\n"},
		{[]script.Line{line(1, 5, 0), line(1, 6, 0), line(1, 5, 0, "x y")}, "show\nlook\nshow x y\n"},
		{[]script.Line{line(1, 0, 0, "x"), line(1, 7, 3), line(1, -1, 0, "y")}, "\n\n\n"},
		{[]script.Line{line(1, 3, 0)}, "rail\n"},
	} {
		if got := script.Print(x.l); got != x.want {
			t.Errorf("%v: %q, want %q", x.l, got, x.want)
		}
	}
	l := []script.Line{{Kind: 1, Words: make([]string, 1, 9)}}
	script.Print(l)
	if len(l[0].Words) != 1 || l[0].Words[:2][1] != "" {
		t.Errorf("changed")
	}
}

// Promise 43.3: what is printed is read as the same lines, one row behind the other.
func TestBack(t *testing.T) {
	pieces := []string{"read", "run A", "  rail  a", "fuel 5 ", "show", "look", "# x", "", "read B  A"}
	for i := range 9 * 9 * 9 * 9 {
		s := strings.Join([]string{pieces[i%9], pieces[i/9%9], pieces[i/81%9], pieces[i/729]}, "\n")
		l, _, e := script.Parse(s)
		if e != api.OK {
			t.Fatalf("%q: %v", s, e)
		}
		p := script.Print(l)
		m, _, e := script.Parse(p)
		for j := range l {
			l[j].Row = j + 1
		}
		if e != api.OK || !same(l, m) || script.Print(m) != p {
			t.Fatalf("%q: printed %q, read as %s", s, p, fmt.Sprint(m))
		}
	}
}
