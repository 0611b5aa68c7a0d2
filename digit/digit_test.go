package digit_test

import (
	"fmt"
	"math"
	"strings"
	"testing"

	"gramarye/api"
	"gramarye/digit"
)

// Promise 3.1, of Print.
func TestPrint(t *testing.T) {
	for _, x := range []struct {
		n    int
		want string
	}{
		{0, "0"}, {1, "1"}, {9, "9"}, {10, "10"}, {100, "100"}, {1203, "1203"},
		{-1, "0"}, {math.MinInt, "0"},
		{digit.Most, "2147483647"}, {digit.Most - 1, "2147483646"}, {digit.Most + 1, "2147483647"}, {math.MaxInt, "2147483647"},
	} {
		if got := digit.Print(x.n); got != x.want {
			t.Errorf("Print(%d): %q, want %q", x.n, got, x.want)
		}
	}
}

// Promises 3.1, of Parse, and 3.3.
func TestParse(t *testing.T) {
	for _, n := range []int{0, 1, 7, 10, 19, 65536, 1000000000, 2000000000, digit.Most - 1, digit.Most} {
		if got, e := digit.Parse(fmt.Sprint(n)); got != n || e != api.OK {
			t.Errorf("Parse of %d: %d, %v", n, got, e)
		}
		if got, e := digit.Parse(digit.Print(n)); got != n || e != api.OK {
			t.Errorf("Parse undoes Print of %d: %d, %v", n, got, e)
		}
	}
	for _, s := range []string{"", "007", "00", "01", "-1", "+1", " 1", "1 ", "1a", "a", "0x1", "1_0", "2147483648", "4294967296", "9999999999", "18446744073709551616", "18446744073709551617", strings.Repeat("9", 1000), strings.Repeat("0", 1000), "\u0661", "1\n", "1.", "/", ":"} {
		if got, e := digit.Parse(s); got != 0 || e != api.ErrText {
			t.Errorf("Parse(%q): %d, %v, want ErrText", s, got, e)
		}
	}
}

// Promise 3.3: what is parsed is printed as it stood, of all short texts over some bytes.
func TestBack(t *testing.T) {
	bytes := "01289-/: a"
	l := []string{""}
	for range 4 {
		for _, s := range l {
			if n, e := digit.Parse(s); e == api.OK && digit.Print(n) != s {
				t.Fatalf("%q is read as %d, printed as %q", s, n, digit.Print(n))
			} else if e != api.OK && s == fmt.Sprint(len(s)) {
				t.Fatalf("%q is not read", s)
			}
		}
		var next []string
		for _, s := range l {
			for i := range len(bytes) {
				next = append(next, s+bytes[i:i+1])
			}
		}
		l = next
	}
}

// Promise 3.2.
func TestPad(t *testing.T) {
	for _, x := range []struct {
		n, width int
		want     string
	}{
		{7, 0, "7"}, {7, 1, "7"}, {7, 2, " 7"}, {7, 4, "   7"}, {123, 2, "123"}, {123, 5, "  123"},
		{7, -1, "7"}, {7, math.MinInt, "7"}, {-5, 3, "  0"}, {math.MaxInt, 12, "  2147483647"},
		{7, 99, strings.Repeat(" ", 98) + "7"}, {7, 100, strings.Repeat(" ", 99) + "7"},
		{7, 101, strings.Repeat(" ", 99) + "7"}, {12, math.MaxInt, strings.Repeat(" ", 98) + "12"},
	} {
		if got := digit.Pad(x.n, x.width); got != x.want {
			t.Errorf("Pad(%d, %d): %q, want %q", x.n, x.width, got, x.want)
		}
	}
}
