package drive_test

import (
	"fmt"
	"reflect"
	"slices"
	"strings"
	"testing"

	"gramarye/api"
	"gramarye/bind"
	"gramarye/check"
	"gramarye/drive"
	"gramarye/read"
)

const head = "grammar g; look 1; token A, B, C;\n"

func at(pos int, e api.Errno) drive.Fault { return drive.Fault{Pos: len(head) + pos, E: e} }

// knotted is so many choices, each in the one ahead of it.
func knotted(n int) string {
	var toks []string
	for i := range n {
		toks = append(toks, fmt.Sprint("T", i))
	}
	return "grammar g; look 1; token " + strings.Join(toks, ", ") + "; a: " + strings.Join(toks, " | (") + strings.Repeat(")", n-1) + ";"
}

// wide is a rule of two of so many tokens.
func wide(n int, more string) string {
	var toks []string
	for i := range n {
		toks = append(toks, fmt.Sprint("T", i))
	}
	return "grammar g; look 2; token " + strings.Join(toks, ", ") + "; a: b b" + more + "; b: " + strings.Join(toks, " | ") + ";"
}

// Promise 41.1: faults, the first kind of which there are any.
func TestFaults(t *testing.T) {
	first := drive.Fault{Pos: 0, E: api.ErrLimit}
	for _, x := range []struct {
		s    string
		want []drive.Fault
	}{
		{"", []drive.Fault{{Pos: 0, E: api.ErrText}}},
		{head + "a: b c $", []drive.Fault{at(7, api.ErrText)}},
		{head + "a: b c", []drive.Fault{at(6, api.ErrText)}},
		{head, []drive.Fault{{Pos: 0, E: api.ErrFull}}},
		{"grammar g; look 7; token A; a: b;", []drive.Fault{{Pos: 16, E: api.ErrLook}}},
		{head + "a: b c;", []drive.Fault{at(3, api.ErrName), at(5, api.ErrName)}},
		{head + "a: a b; d sync (A, E): D;", []drive.Fault{at(8, api.ErrName), at(5, api.ErrName), at(23, api.ErrName)}},
		{head + "a: A | b; b: B c; c: C b; d: d d | d;", []drive.Fault{at(10, api.ErrDead), at(18, api.ErrDead), at(26, api.ErrDead), at(29, api.ErrDead)}},
		{head + "a: A b; b: B b; c: C (b | A b);", []drive.Fault{at(0, api.ErrDead), at(8, api.ErrDead), at(16, api.ErrDead), at(22, api.ErrDead)}},
		{head + "a: a A | A | A;", []drive.Fault{at(0, api.ErrLeft), at(3, api.ErrLeft)}},
		{head + "a: A | A; b: (b? A)*;", []drive.Fault{at(10, api.ErrLeft), at(13, api.ErrLeft), at(14, api.ErrLeft)}},
		{head + "a: (A?)*;", []drive.Fault{at(3, api.ErrLeft)}},
		{wide(25, ""), []drive.Fault{first}},
		{wide(25, " | b T0 | b T1"), []drive.Fault{first}},
		{head + "a: A | B | A B | A;", []drive.Fault{at(3, api.ErrClash), at(3, api.ErrClash), at(3, api.ErrClash)}},
		{head + "a: (A B | A C)* (B | B);", []drive.Fault{at(4, api.ErrClash), at(17, api.ErrClash)}},
		{head + "a: (A | A) b b b b b b b b b; b: c c c c c c; c: " + strings.Repeat("A ", 40) + ";", []drive.Fault{at(4, api.ErrClash)}},
		{head + "a: b b b b b b b b b; b: c c c c c c; c: " + strings.Repeat("A ", 40) + ";", []drive.Fault{first}},
		{knotted(38), []drive.Fault{first}},
		{knotted(20), nil},
		{wide(24, ""), nil},
		{head + "a: A B? | C;", nil},
	} {
		g, l := drive.Grammar(x.s)
		s, m := drive.Generate(x.s)
		if !slices.Equal(l, x.want) || !slices.Equal(m, x.want) {
			t.Errorf("%.120q: %v, %v, want %v", x.s, l, m, x.want)
		}
		if len(l) > 0 && (!reflect.DeepEqual(g, api.Grammar{}) || s != "") {
			t.Errorf("%.120q: faults, and something else", x.s)
		}
		for _, f := range l {
			if f.Pos < 0 || f.Pos > len(x.s) {
				t.Errorf("%.120q: %v lies beyond", x.s, f)
			}
		}
		if len(l) > 0 {
			continue
		}
		p, _, _ := read.Parse(x.s)
		b, _, _ := bind.Bind(p)
		if text, e := check.Text(b); !reflect.DeepEqual(g, b) || e != api.OK || text != s || !check.Valid(g, s) {
			t.Errorf("%.120q: %v", x.s, e)
		}
	}
}

// Promise 41.2: reports.
func TestReport(t *testing.T) {
	s := "a\nbc\n"
	l := []drive.Fault{{Pos: 3, E: api.ErrName}, {Pos: 0, E: api.ErrText}, {Pos: 5, E: api.ErrClash}, {Pos: 6, E: api.ErrLimit}, {Pos: -1, E: api.ErrDead}, {Pos: 3, E: api.ErrName}}
	if got := drive.Report(s, l); got != "2:2: error 9\n1:1: error 5\n3:1: error 14\nerror 15\nerror 13\n2:2: error 9\n" {
		t.Errorf("%q", got)
	}
	if got := drive.Report(s, nil); got != "" {
		t.Errorf("%q", got)
	}
	text := head + "a: b c;"
	_, faults := drive.Grammar(text)
	if got := drive.Report(text, faults); got != "2:4: error 9\n2:6: error 9\n" {
		t.Errorf("%q", got)
	}
}

// Promise 41.3: of texts of many pieces there are faults, or a program's text that is valid.
func TestEach(t *testing.T) {
	pieces := []string{"A", "B", "a", "b", "(", ")", "|", "?", "*", "+", "l=", ""}
	good := 0
	for i := range 12 * 12 * 12 * 12 {
		s := head + "a: " + pieces[i%12] + " " + pieces[i/12%12] + " " + pieces[i/144%12] + " " + pieces[i/1728] + "; b: C;"
		text, l := drive.Generate(s)
		if (text == "") != (len(l) > 0) {
			t.Fatalf("%q: %v and %d bytes", s, l, len(text))
		}
		for _, f := range l {
			if f.Pos < 0 || f.Pos > len(s) || f.E == api.OK {
				t.Fatalf("%q: %v", s, l)
			}
		}
		if len(l) == 0 {
			good++
		}
		if len(l) == 0 && good%10 == 0 {
			if g, _ := drive.Grammar(s); !check.Valid(g, text) {
				t.Fatalf("%q: not valid", s)
			}
		}
	}
	if good < 500 {
		t.Errorf("%d are good", good)
	}
}
