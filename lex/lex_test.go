package lex_test

import (
	"fmt"
	"math"
	"reflect"
	"strings"
	"testing"

	"gramarye/api"
	"gramarye/lex"
)

func tok(kind int, s string, n, pos int) api.Token {
	return api.Token{Kind: kind, S: s, N: n, Pos: pos}
}

// same holds two lists against each other; one without members may be nil.
func same(a, b []api.Token) bool { return len(a) == 0 && len(b) == 0 || reflect.DeepEqual(a, b) }

// Promise 4.1: tokens of texts.
func TestAll(t *testing.T) {
	big := strings.Repeat("a", 20)
	for _, x := range []struct {
		s    string
		want []api.Token
	}{
		{"", nil},
		{" \t\r\n", nil},
		{"# all of it", nil},
		{"#\n#", nil},
		{"a: B?", []api.Token{tok(api.KName, "a", 0, 0), tok(api.KSign, ":", 0, 1), tok(api.KCap, "B", 0, 3), tok(api.KSign, "?", 0, 4)}},
		{"grammar look sync token", []api.Token{tok(api.KWord, "grammar", 0, 0), tok(api.KWord, "look", 0, 8), tok(api.KWord, "sync", 0, 13), tok(api.KWord, "token", 0, 18)}},
		{"grammars tok TOKEN", []api.Token{tok(api.KName, "grammars", 0, 0), tok(api.KName, "tok", 0, 9), tok(api.KCap, "TOKEN", 0, 13)}},
		{"a_0Z_9b", []api.Token{tok(api.KName, "a_0", 0, 0), tok(api.KCap, "Z_9", 0, 3), tok(api.KName, "b", 0, 6)}},
		{"0 12a 2147483647B", []api.Token{tok(api.KNum, "", 0, 0), tok(api.KNum, "", 12, 2), tok(api.KName, "a", 0, 4), tok(api.KNum, "", 2147483647, 6), tok(api.KCap, "B", 0, 16)}},
		{":;|()?*+=,", []api.Token{tok(api.KSign, ":", 0, 0), tok(api.KSign, ";", 0, 1), tok(api.KSign, "|", 0, 2), tok(api.KSign, "(", 0, 3), tok(api.KSign, ")", 0, 4), tok(api.KSign, "?", 0, 5), tok(api.KSign, "*", 0, 6), tok(api.KSign, "+", 0, 7), tok(api.KSign, "=", 0, 8), tok(api.KSign, ",", 0, 9)}},
		{"a#b \xff$\nC#", []api.Token{tok(api.KName, "a", 0, 0), tok(api.KCap, "C", 0, 7)}},
		{big + strings.ToUpper(big), []api.Token{tok(api.KName, big, 0, 0), tok(api.KCap, strings.ToUpper(big), 0, 20)}},
		{strings.Repeat(" ", api.MaxText-1) + "a", []api.Token{tok(api.KName, "a", 0, api.MaxText-1)}},
	} {
		got, end, e := lex.All(x.s)
		if e != api.OK || end != len(x.s) || !same(got, x.want) {
			t.Errorf("All(%.60q): %v, %d, %v, want %v", x.s, got, end, e, x.want)
		}
	}
}

// Promise 4.1: what is wrong, and where.
func TestWrong(t *testing.T) {
	long := strings.Repeat("a", 21)
	for _, x := range []struct {
		s  string
		at int
		e  api.Errno
	}{
		{"$", 0, api.ErrText},
		{"_a", 0, api.ErrText},
		{"a _", 2, api.ErrText},
		{"a\x00", 1, api.ErrText},
		{"a\v", 1, api.ErrText},
		{"ab\u00e9", 2, api.ErrText},
		{"a: 007 $", 3, api.ErrText},
		{"00", 0, api.ErrText},
		{" 2147483648", 1, api.ErrText},
		{"a " + long, 2, api.ErrText},
		{"b" + strings.ToUpper(long), 1, api.ErrText},
		{long + " $", 0, api.ErrText},
		{"A $ " + long, 2, api.ErrText},
		{"a-b", 1, api.ErrText},
		{"a[", 1, api.ErrText},
		{"{", 0, api.ErrText},
		{"#\n.", 2, api.ErrText},
		{strings.Repeat(" ", api.MaxText+1), 0, api.ErrLong},
		{"$" + strings.Repeat(" ", api.MaxText), 0, api.ErrLong},
	} {
		if got, at, e := lex.All(x.s); len(got) != 0 || at != x.at || e != x.e {
			t.Errorf("All(%.40q): %v, %d, %v, want %d, %v", x.s, got, at, e, x.at, x.e)
		}
	}
	if _, end, e := lex.All(strings.Repeat("#", api.MaxText)); end != api.MaxText || e != api.OK {
		t.Errorf("a text as long as can be: %d, %v", end, e)
	}
}

// Promise 4.1, of each byte: it begins a piece, or is wrong at its place.
func TestBytes(t *testing.T) {
	for i := 0; i < 256; i++ {
		c := string([]byte{byte(i)})
		ok := strings.ContainsAny(c, "abcdefghijklmnopqrstuvwxyzABCDEFGHIJKLMNOPQRSTUVWXYZ0123456789:;|()?*+=,# \t\n\r") && i < 128
		_, at, e := lex.All("(" + c)
		if ok && (at != 2 || e != api.OK) || !ok && (at != 1 || e != api.ErrText) {
			t.Errorf("byte %d: %d, %v", i, at, e)
		}
	}
}

// Promise 4.2: a reader.
func TestReader(t *testing.T) {
	l := []api.Token{tok(api.KName, "a", 0, 0), tok(api.KSign, ":", 0, 1), tok(api.KNum, "", 5, 3)}
	r := lex.New(l, 9)
	l[0].S = "changed"
	if r.Done() || r.Peek() != tok(api.KName, "a", 0, 0) || r.Peek() != tok(api.KName, "a", 0, 0) {
		t.Errorf("the first one: %v", r.Peek())
	}
	if r.Take(api.KName, "b") || r.Take(api.KWord, "a") || r.Take(api.KSign, ":") || r.Peek().S != "a" {
		t.Errorf("what was not taken is gone: %v", r.Peek())
	}
	if !r.Take(api.KName, "a") || r.Peek() != tok(api.KSign, ":", 0, 1) {
		t.Errorf("behind the first one: %v", r.Peek())
	}
	if r.Next() != tok(api.KSign, ":", 0, 1) || r.Done() {
		t.Errorf("the second one is not next")
	}
	if !r.Take(api.KNum, "") || !r.Done() {
		t.Errorf("the number is not taken")
	}
	for range 3 {
		if r.Peek() != (api.Token{Pos: 9}) || r.Next() != (api.Token{Pos: 9}) || r.Take(0, "") || !r.Done() {
			t.Errorf("at the end: %v", r.Peek())
		}
	}
	r = lex.New(nil, math.MinInt)
	if !r.Done() || r.Next() != (api.Token{Pos: math.MinInt}) || r.Take(0, "") {
		t.Errorf("a reader of none: %v", r.Peek())
	}
	r = lex.New([]api.Token{{}}, 3)
	if r.Done() || !r.Take(0, "") || !r.Done() {
		t.Errorf("a token of no kind")
	}
}

// Promise 4.2: of no reader.
func TestNone(t *testing.T) {
	var r *lex.Reader
	if r.Peek() != (api.Token{}) || r.Next() != (api.Token{}) || r.Take(0, "") || !r.Done() {
		t.Errorf("nil")
	}
}

func text(x api.Token) string {
	if x.Kind == api.KNum {
		return fmt.Sprint(x.N)
	}
	return x.S
}

// Promise 4.3: tokens rise within the text, and are read anew.
func TestAnew(t *testing.T) {
	pieces := []string{"a", "Zz", "0", "10", "tokenA1look", "#x\n", "(", "?*", " ", "_", "9a_A_", "=;", "\n"}
	for i := range 13 * 13 * 13 {
		s := pieces[i%13] + pieces[i/13%13] + pieces[i/169]
		l, _, e := lex.All(s)
		if e != api.OK {
			continue
		}
		last, anew := -1, ""
		for _, x := range l {
			if x.Pos <= last || x.Pos+len(text(x)) > len(s) || s[x.Pos:x.Pos+len(text(x))] != text(x) {
				t.Fatalf("%q: %v", s, l)
			}
			last = x.Pos
			anew += text(x) + " "
		}
		m, _, e := lex.All(anew)
		if e != api.OK || len(m) != len(l) {
			t.Fatalf("%q read anew as %q: %v, %v", s, anew, m, e)
		}
		for j := range m {
			if m[j].Kind != l[j].Kind || m[j].S != l[j].S || m[j].N != l[j].N {
				t.Fatalf("%q read anew as %q: %v", s, anew, m)
			}
		}
	}
}
