package rail_test

import (
	"math"
	"math/cmplx"
	"reflect"
	"slices"
	"strings"
	"testing"

	"gramarye/api"
	"gramarye/gram"
	"gramarye/rail"
	"gramarye/read"
)

// parse reads a grammar of the tokens A, BB, CCC.
func parse(t *testing.T, rules string) api.Grammar {
	t.Helper()
	g, at, e := read.Parse("grammar g; look 1; token A, BB, CCC; " + rules)
	if e != api.OK {
		t.Fatalf("%q: %d, %v", rules, at, e)
	}
	return g
}

func box(node, x, y, w, h int) rail.Box { return rail.Box{Node: node, X: x, Y: y, W: w, H: h} }

// Promises 42.1 and 42.3: boxes, and pictures.
func TestPicture(t *testing.T) {
	for _, x := range []struct {
		rules   string
		w, h    int
		boxes   []rail.Box
		picture string
	}{
		{"a: A b;", 7, 1, []rail.Box{box(1, 0, 0, 3, 1), box(2, 4, 0, 3, 1)}, "(A) [b]\n"},
		{"a: A;", 3, 1, []rail.Box{box(0, 0, 0, 3, 1)}, "(A)\n"},
		{"a: long_name;", 11, 1, []rail.Box{box(0, 0, 0, 11, 1)}, "[long_name]\n"},
		{"a: ;", 1, 1, nil, "\n"},
		{"a: A | BB;", 8, 3, []rail.Box{box(1, 2, 0, 3, 1), box(2, 2, 2, 4, 1)}, "  (A)\n\n  (BB)\n"},
		{"a: A | | BB CCC;", 14, 5, []rail.Box{box(1, 2, 0, 3, 1), box(4, 2, 4, 4, 1), box(5, 7, 4, 5, 1)}, "  (A)\n\n\n\n  (BB) (CCC)\n"},
		{"a: A?;", 7, 2, []rail.Box{box(1, 2, 1, 3, 1)}, "\n  (A)\n"},
		{"a: A*;", 7, 2, []rail.Box{box(1, 2, 1, 3, 1)}, "\n  (A)\n"},
		{"a: A+;", 7, 2, []rail.Box{box(1, 2, 0, 3, 1)}, "  (A)\n\n"},
		{"a: A b? CCC;", 17, 2, []rail.Box{box(1, 0, 0, 3, 1), box(3, 6, 1, 3, 1), box(4, 12, 0, 5, 1)}, "(A)         (CCC)\n      [b]\n"},
		{"a: (A | b+) BB;", 16, 4, []rail.Box{box(2, 2, 0, 3, 1), box(4, 4, 2, 3, 1), box(5, 12, 0, 4, 1)}, "  (A)       (BB)\n\n    [b]\n\n"},
		{"a: ((A?)*)+;", 15, 4, []rail.Box{box(3, 6, 2, 3, 1)}, "\n\n      (A)\n\n"},
		{"a: () A;", 5, 1, []rail.Box{box(2, 2, 0, 3, 1)}, "  (A)\n"},
		{"a: A ();", 5, 1, []rail.Box{box(1, 0, 0, 3, 1)}, "(A)\n"},
		{"a: l=(m=A n=b);", 7, 1, []rail.Box{box(1, 0, 0, 3, 1), box(2, 4, 0, 3, 1)}, "(A) [b]\n"},
		{"a: (A | BB) (CCC | b | ());", 18, 5, []rail.Box{box(2, 2, 0, 3, 1), box(3, 2, 2, 4, 1), box(5, 11, 0, 5, 1), box(6, 11, 2, 3, 1)}, "  (A)      (CCC)\n\n  (BB)     [b]\n\n\n"},
	} {
		g := parse(t, "z: BB; "+x.rules+" b: A;")
		for i := range x.boxes {
			x.boxes[i].Node++
		}
		l, w, h, e := rail.Boxes(g, 1)
		if e != api.OK || w != x.w || h != x.h || !slices.Equal(l, x.boxes) {
			t.Errorf("%q: %v, %d, %d, %v, want %v, %d, %d", x.rules, l, w, h, e, x.boxes, x.w, x.h)
		}
		if s, e := rail.Picture(g, 1); e != api.OK || s != x.picture {
			t.Errorf("%q: %q, %v, want %q", x.rules, s, e, x.picture)
		}
		if s, _ := rail.Picture(g, 0); s != "(BB)\n" {
			t.Errorf("%q: the first rule: %q", x.rules, s)
		}
	}
}

// Promise 42.1: boxes in the order of Walk, wherever nodes stand.
func TestStand(t *testing.T) {
	g := parse(t, "a: A | BB;")
	g.L = []api.Node{g.L[0], g.L[2], g.L[1]}
	g.L[0].L = []int{2, 1}
	l, _, _, _ := rail.Boxes(g, 0)
	if !slices.Equal(l, []rail.Box{box(2, 2, 0, 3, 1), box(1, 2, 2, 4, 1)}) {
		t.Errorf("%v", l)
	}
}

// Promises 42.1 and 42.3: errors.
func TestWrong(t *testing.T) {
	g := parse(t, "a: A;")
	bad := parse(t, "a: A;")
	bad.Look = 0
	for i, x := range []struct {
		g    api.Grammar
		rule int
		want api.Errno
	}{{api.Grammar{}, 9, api.ErrFull}, {bad, 9, api.ErrLook}, {g, 1, api.ErrNone}, {g, -1, api.ErrNone}, {g, math.MinInt, api.ErrNone}, {g, math.MaxInt, api.ErrNone}} {
		l, w, h, e := rail.Boxes(x.g, x.rule)
		s, f := rail.Picture(x.g, x.rule)
		if e != x.want || f != x.want || len(l)+w+h > 0 || s != "" {
			t.Errorf("%d: %v, %d, %d, %v, %q, %v", i, l, w, h, e, s, f)
		}
	}
}

// cells tells the cells of boxes, each with its box's place.
func cells(l []rail.Box) map[[2]int][]int {
	r := map[[2]int][]int{}
	for i, b := range l {
		for x := b.X; x < b.X+b.W; x++ {
			for y := b.Y; y < b.Y+b.H; y++ {
				r[[2]int{x, y}] = append(r[[2]int{x, y}], i)
			}
		}
	}
	return r
}

// Promises 42.2 and 42.4: boxes turned, cell by cell.
func TestTurn(t *testing.T) {
	for _, l := range [][]rail.Box{
		nil, {box(7, 0, 0, 1, 1)}, {box(7, -3, 5, 2, 4)}, {box(1, 0, 0, 3, 1), box(2, 4, 0, 3, 1), box(3, 2, 2, 4, 1)}, {box(9, 1, 1, 2, 2), box(-1, 1, 1, 2, 2), box(0, -7, -8, 1, 3)},
	} {
		for _, quarters := range []int{0, 1, 2, 3, 4, 5, -1, -2, -3, -4, -5, math.MaxInt, math.MinInt, math.MinInt + 1} {
			got, e := rail.Turn(l, quarters)
			if e != api.OK || len(got) != len(l) {
				t.Fatalf("%v, %d: %v, %v", l, quarters, got, e)
			}
			q := quarters % 4
			left, top := math.MaxInt, math.MaxInt
			moved := map[[2]int][]int{}
			for c, of := range cells(l) {
				// A cell's middle, in halves, is turned by as many quarters as its corners.
				p := complex(float64(2*c[0]+1), float64(2*c[1]+1)) * cmplx.Pow(1i, complex(float64(q), 0))
				d := [2]int{int(math.Floor(math.Round(real(p)) / 2)), int(math.Floor(math.Round(imag(p)) / 2))}
				moved[d] = of
				left, top = min(left, d[0]), min(top, d[1])
			}
			want := map[[2]int][]int{}
			for d, of := range moved {
				want[[2]int{d[0] - left, d[1] - top}] = of
			}
			if !reflect.DeepEqual(cells(got), want) {
				t.Fatalf("%v, by %d: %v", l, quarters, got)
			}
			for i := range got {
				if got[i].Node != l[i].Node {
					t.Fatalf("%v, by %d: %v", l, quarters, got)
				}
			}
			if rail.Apart(got...) != rail.Apart(l...) {
				t.Fatalf("%v, by %d: apart", l, quarters)
			}
		}
	}
	for _, b := range []rail.Box{
		box(0, 0, 0, 0, 1), box(0, 0, 0, 1, 0), box(0, 0, 0, -1, 1), box(0, 0, 0, 1, math.MinInt), box(0, 10001, 0, 1, 1), box(0, -10001, 0, 1, 1), box(0, 0, 10001, 1, 1), box(0, 0, -10001, 1, 1), box(0, 0, 0, 10001, 1), box(0, 0, 0, 1, 10001), box(0, math.MaxInt, 0, 1, 1),
	} {
		if l, e := rail.Turn([]rail.Box{box(1, 0, 0, 1, 1), b}, 1); e != api.ErrArg || len(l) > 0 {
			t.Errorf("%v: %v, %v", b, l, e)
		}
	}
	l := []rail.Box{box(math.MinInt, -10000, 10000, 10000, 1), box(math.MaxInt, 10000, -10000, 1, 10000)}
	if got, e := rail.Turn(l, 1); e != api.OK || !slices.Equal(got, []rail.Box{box(math.MinInt, 0, 0, 1, 10000), box(math.MaxInt, 10001, 20000, 10000, 1)}) {
		t.Errorf("%v, %v", got, e)
	}
	if l[0].X != -10000 {
		t.Errorf("changed")
	}
}

// Promise 42.1: whether boxes are apart.
func TestApart(t *testing.T) {
	for _, x := range []struct {
		l    []rail.Box
		want bool
	}{
		{nil, true}, {[]rail.Box{box(0, 0, 0, 5, 5)}, true}, {[]rail.Box{box(0, 0, 0, 1, 1), box(0, 0, 0, 1, 1)}, false},
		{[]rail.Box{box(0, 0, 0, 2, 2), box(0, 2, 0, 2, 2)}, true}, {[]rail.Box{box(0, 0, 0, 2, 2), box(0, 1, 1, 2, 2)}, false}, {[]rail.Box{box(0, 0, 0, 2, 2), box(0, 1, 2, 2, 2)}, true},
		{[]rail.Box{box(0, 5, 5, 1, 1), box(0, 0, 0, 3, 3), box(0, 2, 2, 1, 1)}, false}, {[]rail.Box{box(0, 0, 0, 100, 1), box(0, 50, 1, 1, 1), box(0, 60, -1, 1, 1)}, true}, {[]rail.Box{box(0, 0, 0, 100, 1), box(0, 50, 1, 1, 1), box(0, 60, -1, 1, 2)}, false},
		{[]rail.Box{box(0, 0, 0, 0, 5), box(0, 0, 0, 5, 5), box(0, 1, 1, -1, 1), box(0, 1, 1, 1, 0)}, true},
		{[]rail.Box{box(0, math.MinInt, 0, math.MaxInt, 1), box(0, math.MaxInt, 0, math.MaxInt, 1)}, true}, {[]rail.Box{box(0, math.MinInt, 0, math.MaxInt, 1), box(0, -1, 0, 1, 1)}, true}, {[]rail.Box{box(0, math.MinInt, 0, math.MaxInt, 1), box(0, -2, 0, 1, 1)}, false},
		{[]rail.Box{box(0, math.MaxInt, 0, 5, 1), box(0, math.MaxInt, 0, 1, 1)}, false},
	} {
		if got := rail.Apart(x.l...); got != x.want {
			t.Errorf("%v: %v", x.l, got)
		}
		slices.Reverse(x.l)
		if got := rail.Apart(x.l...); got != x.want {
			t.Errorf("%v, the other way round: %v", x.l, got)
		}
	}
}

// Promise 42.4: a picture's boxes lie within it, are apart, and turned by four quarters stand as they did.
func TestAll(t *testing.T) {
	pieces := []string{"A", "bb", "(", ")", "|", "?", "*", "+", "CCC", ""}
	good := 0
	for i := range 100000 {
		s := pieces[i%10] + " " + pieces[i/10%10] + " " + pieces[i/100%10] + " " + pieces[i/1000%10] + " " + pieces[i/10000]
		g, _, e := read.Alts("x A | (" + s + ")? c (" + s + ") | A")
		if e != api.OK {
			continue
		}
		good++
		l, w, h, _ := rail.Boxes(g, 0)
		var order []int
		for n := range gram.Walk(g) {
			if g.L[n].Kind == api.KTok || g.L[n].Kind == api.KRef {
				order = append(order, n)
			}
		}
		for j, b := range l {
			if b.Node != order[j] || b.X < 0 || b.Y < 0 || b.X+b.W > w || b.Y+b.H > h || b.H != 1 || b.W != len(g.L[b.Node].Name)+2 {
				t.Fatalf("%q: %v of %d, %d", s, b, w, h)
			}
		}
		if len(l) != len(order) || !rail.Apart(l...) {
			t.Fatalf("%q: %v", s, l)
		}
		four, _ := rail.Turn(l, 4)
		none, _ := rail.Turn(l, 0)
		least := box(0, math.MaxInt, math.MaxInt, 0, 0)
		for _, b := range l {
			least.X, least.Y = min(least.X, b.X), min(least.Y, b.Y)
		}
		for j, b := range l {
			b.X, b.Y = b.X-least.X, b.Y-least.Y
			if four[j] != b || none[j] != b {
				t.Fatalf("%q: %v, turned %v", s, l, four)
			}
		}
		p, _ := rail.Picture(g, 0)
		rows := strings.Split(p, "\n")
		if len(rows) != h+1 || strings.Contains(p, " \n") {
			t.Fatalf("%q: %q", s, p)
		}
		for _, b := range l {
			if !strings.HasPrefix(rows[b.Y][b.X+1:], g.L[b.Node].Name) {
				t.Fatalf("%q: %q", s, p)
			}
		}
	}
	if good < 1000 {
		t.Errorf("%d are good", good)
	}
}
