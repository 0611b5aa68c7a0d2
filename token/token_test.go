package token_test

import (
	"reflect"
	"strings"
	"testing"

	"gramarye/api"
	"gramarye/token"
)

func tok(kind int, s string, n, pos int) api.Token {
	return api.Token{Kind: kind, S: s, N: n, Pos: pos}
}

func same(a, b []api.Token) bool { return len(a) == 0 && len(b) == 0 || reflect.DeepEqual(a, b) }

// Promise 28.1: tokens of texts.
func TestAll(t *testing.T) {
	long := strings.Repeat("aB_9", 10)
	for _, x := range []struct {
		s    string
		want []api.Token
	}{
		{"", nil},
		{" \t\r", nil},
		{"\n\n \n", nil},
		{"x := 1", []api.Token{tok(api.KName, "x", 0, 0), tok(api.KSign, ":=", 0, 2), tok(api.KNum, "", 1, 5)}},
		{"\n a\n", []api.Token{tok(api.KName, "a", 0, 2)}},
		{"a\nb", []api.Token{tok(api.KName, "a", 0, 0), tok(api.KSign, "\n", 0, 1), tok(api.KName, "b", 0, 2)}},
		{"a \r\n\n\t\n b \n ", []api.Token{tok(api.KName, "a", 0, 0), tok(api.KSign, "\n", 0, 3), tok(api.KName, "b", 0, 8)}},
		{"\n{\n}\n", []api.Token{tok(api.KSign, "{", 0, 1), tok(api.KSign, "\n", 0, 2), tok(api.KSign, "}", 0, 3)}},
		{"iff if If func", []api.Token{tok(api.KName, "iff", 0, 0), tok(api.KWord, "if", 0, 4), tok(api.KName, "If", 0, 7), tok(api.KWord, "func", 0, 10)}},
		{"12ab 0 2147483647_", []api.Token{tok(api.KNum, "", 12, 0), tok(api.KName, "ab", 0, 2), tok(api.KNum, "", 0, 5), tok(api.KNum, "", 2147483647, 7), tok(api.KName, "_", 0, 17)}},
		{":=:=====!=!<=<", []api.Token{tok(api.KSign, ":=", 0, 0), tok(api.KSign, ":=", 0, 2), tok(api.KSign, "==", 0, 4), tok(api.KSign, "==", 0, 6), tok(api.KSign, "!=", 0, 8), tok(api.KSign, "!", 0, 10), tok(api.KSign, "<=", 0, 11), tok(api.KSign, "<", 0, 13)}},
		{"|||| &&+-*.(){},:", []api.Token{tok(api.KSign, "||", 0, 0), tok(api.KSign, "||", 0, 2), tok(api.KSign, "&&", 0, 5), tok(api.KSign, "+", 0, 7), tok(api.KSign, "-", 0, 8), tok(api.KSign, "*", 0, 9), tok(api.KSign, ".", 0, 10), tok(api.KSign, "(", 0, 11), tok(api.KSign, ")", 0, 12), tok(api.KSign, "{", 0, 13), tok(api.KSign, "}", 0, 14), tok(api.KSign, ",", 0, 15), tok(api.KSign, ":", 0, 16)}},
		{"===", []api.Token{tok(api.KSign, "==", 0, 0), tok(api.KSign, "=", 0, 2)}},
		{long, []api.Token{tok(api.KName, long, 0, 0)}},
	} {
		got, end, e := token.All(x.s)
		if e != api.OK || end != len(x.s) || !same(got, x.want) {
			t.Errorf("All(%.60q): %v, %d, %v, want %v", x.s, got, end, e, x.want)
		}
	}
	for _, s := range strings.Fields("bool case default else false for func if int look new nil package return struct switch true type") {
		if got, _, e := token.All(s); e != api.OK || !same(got, []api.Token{tok(api.KWord, s, 0, 0)}) {
			t.Errorf("All(%q): %v, %v", s, got, e)
		}
	}
}

// Promise 28.1: what is wrong, and where.
func TestWrong(t *testing.T) {
	long := strings.Repeat("a", 41)
	for _, x := range []struct {
		s  string
		at int
		e  api.Errno
	}{
		{"|", 0, api.ErrText},
		{"a |b", 2, api.ErrText},
		{"|||", 2, api.ErrText},
		{"&", 0, api.ErrText},
		{"a &|", 2, api.ErrText},
		{"a\n ;", 3, api.ErrText},
		{"a > b", 2, api.ErrText},
		{"a / b", 2, api.ErrText},
		{"a // b", 2, api.ErrText},
		{"\"", 0, api.ErrText},
		{"a[0]", 1, api.ErrText},
		{"\x00", 0, api.ErrText},
		{"a\v", 1, api.ErrText},
		{"\u00e9", 0, api.ErrText},
		{"a: 007 $", 3, api.ErrText},
		{"2147483648", 0, api.ErrText},
		{"a " + long + " $", 2, api.ErrText},
		{"$ " + long, 0, api.ErrText},
		{"1" + long, 1, api.ErrText},
		{strings.Repeat(" ", 1000001), 0, api.ErrLong},
		{"$" + strings.Repeat(" ", 1000000), 0, api.ErrLong},
	} {
		if got, at, e := token.All(x.s); len(got) != 0 || at != x.at || e != x.e {
			t.Errorf("All(%.40q): %v, %d, %v, want %d, %v", x.s, got, at, e, x.at, x.e)
		}
	}
	if got, end, e := token.All(strings.Repeat("+\n", 500000)); len(got) != 999999 || end != 1000000 || e != api.OK {
		t.Errorf("a text as long as can be: %d, %d, %v", len(got), end, e)
	}
}

// Promise 28.1, of each byte: it begins a piece, or is wrong at its place.
func TestBytes(t *testing.T) {
	for i := range 256 {
		c := string([]byte{byte(i)})
		ok := i < 128 && strings.ContainsAny(c, "abcdefghijklmnopqrstuvwxyzABCDEFGHIJKLMNOPQRSTUVWXYZ0123456789_<=+-*!.(){},: \t\n\r")
		_, at, e := token.All("(" + c)
		if ok && (at != 2 || e != api.OK) || !ok && (at != 1 || e != api.ErrText) {
			t.Errorf("byte %d: %d, %v", i, at, e)
		}
	}
}

// Promise 28.2.
func TestText(t *testing.T) {
	for _, x := range []struct {
		t    api.Token
		want string
	}{
		{tok(api.KNum, "", 12, 3), "12"}, {tok(api.KNum, "x", 0, 0), "0"}, {tok(api.KNum, "", -4, 0), "0"}, {tok(api.KNum, "", 1<<40, 0), "2147483647"},
		{tok(api.KName, "ab", 5, 0), "ab"}, {tok(api.KSign, "\n", 0, 0), "\n"}, {tok(api.KWord, "if", 0, 0), "if"}, {tok(0, "z", 7, 0), "z"}, {api.Token{}, ""},
	} {
		if got := token.Text(x.t); got != x.want {
			t.Errorf("%v: %q", x.t, got)
		}
	}
}

// Promise 28.3: tokens rise, and are read anew.
func TestAnew(t *testing.T) {
	pieces := []string{"a", "Zz_9", "0", "10", "if", "\n", ":=", "=", "!", "&&", " ", "\r\n", "<", ":", "("}
	for i := range 15 * 15 * 15 {
		s := pieces[i%15] + pieces[i/15%15] + pieces[i/225]
		l, _, e := token.All(s)
		if e != api.OK {
			continue
		}
		last, anew := -1, ""
		for _, x := range l {
			if text := token.Text(x); x.Pos <= last || !strings.HasPrefix(s[x.Pos:], text) {
				t.Fatalf("%q: %v", s, l)
			}
			last = x.Pos
			anew += token.Text(x) + " "
		}
		m, _, e := token.All(anew)
		if e != api.OK || len(m) != len(l) {
			t.Fatalf("%q read anew as %q: %v, %v", s, anew, m, e)
		}
		for j := range m {
			m[j].Pos = l[j].Pos
			if m[j] != l[j] {
				t.Fatalf("%q read anew as %q: %v", s, anew, m)
			}
		}
	}
}
