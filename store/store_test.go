package store_test

import (
	"math"
	"reflect"
	"testing"

	"gramarye/api"
	"gramarye/store"
)

func num(n int64) api.Val { return api.Val{Kind: api.VInt, N: n} }

// Promises 33.1 and 33.4: what was set is got, and nothing else has changed.
func TestStore(t *testing.T) {
	s := store.New()
	if s.Len() != 0 || len(s.All()) != 0 {
		t.Errorf("a new one has objects")
	}
	l := []api.Val{num(5), {Kind: api.VNil}, {Kind: api.VBool, N: 1}}
	for i, fields := range [][]api.Val{l, nil, {num(7)}, l} {
		if n, e := s.Make(i-1, fields...); n != i || e != api.OK || s.Len() != i+1 {
			t.Errorf("object %d: %d, %v", i, n, e)
		}
	}
	l[0] = num(99)
	want := []api.Object{
		{Type: -1, L: []api.Val{num(5), {Kind: api.VNil}, {Kind: api.VBool, N: 1}}}, {Type: 0}, {Type: 1, L: []api.Val{num(7)}},
		{Type: 2, L: []api.Val{num(5), {Kind: api.VNil}, {Kind: api.VBool, N: 1}}},
	}
	check(t, s, want)
	for _, x := range []struct {
		i, field int
		v        api.Val
	}{{0, 1, api.Val{Kind: api.VRef, N: 3}}, {3, 0, num(math.MinInt64)}, {2, 0, api.Val{Kind: 77, N: -1}}, {0, 1, num(1)}} {
		if e := s.Set(x.i, x.field, x.v); e != api.OK {
			t.Errorf("%v: %v", x, e)
		}
		want[x.i].L[x.field] = x.v
		check(t, s, want)
	}
	for _, x := range [][2]int{{-1, 0}, {4, 0}, {0, -1}, {0, 3}, {1, 0}, {2, 1}, {math.MinInt, 0}, {math.MaxInt, 0}, {0, math.MinInt}, {0, math.MaxInt}} {
		v, e := s.Get(x[0], x[1])
		if f := s.Set(x[0], x[1], num(8)); v != (api.Val{}) || e != api.ErrNone || f != api.ErrNone {
			t.Errorf("%v: %v, %v, %v", x, v, e, f)
		}
	}
	check(t, s, want)
	all := s.All()
	all[0].L[0], all[1].Type = num(0), 9
	check(t, s, want)
}

// check holds all that a store has against what it should have.
func check(t *testing.T, s *store.Store, want []api.Object) {
	t.Helper()
	all := s.All()
	if len(all) != len(want) || s.Len() != len(want) {
		t.Fatalf("%d objects, %d, want %d", len(all), s.Len(), len(want))
	}
	for i, o := range want {
		if all[i].Type != o.Type || len(all[i].L) != len(o.L) || len(o.L) > 0 && !reflect.DeepEqual(all[i].L, o.L) {
			t.Errorf("object %d: %v, want %v", i, all[i], o)
		}
		for f, v := range o.L {
			if got, e := s.Get(i, f); got != v || e != api.OK {
				t.Errorf("field %d of %d: %v, %v, want %v", f, i, got, e, v)
			}
		}
	}
}

// Promises 33.2 and 33.4: what is done to a fork is not done to the other one.
func TestFork(t *testing.T) {
	s := store.New()
	s.Make(1, num(1), num(2))
	f := s.Fork()
	g := f.Fork()
	f.Set(0, 0, num(3))
	f.Make(2)
	s.Set(0, 1, num(4))
	s.Make(3, num(9))
	s.Make(4)
	check(t, s, []api.Object{{Type: 1, L: []api.Val{num(1), num(4)}}, {Type: 3, L: []api.Val{num(9)}}, {Type: 4}})
	check(t, f, []api.Object{{Type: 1, L: []api.Val{num(3), num(2)}}, {Type: 2}})
	check(t, g, []api.Object{{Type: 1, L: []api.Val{num(1), num(2)}}})
}

// Promise 33.2: of no store.
func TestNil(t *testing.T) {
	var s *store.Store
	n, e := s.Make(1, num(1))
	v, f := s.Get(0, 0)
	if n != 0 || e != api.ErrFull || v != (api.Val{}) || f != api.ErrNone || s.Set(0, 0, num(1)) != api.ErrNone || s.Len() != 0 || len(s.All()) != 0 || s.Fork() != nil {
		t.Errorf("nil: %d, %v, %v, %v", n, e, v, f)
	}
}

// Promise 33.1: as many objects as there can be.
func TestFull(t *testing.T) {
	s := store.New()
	for i := range store.Most {
		if n, e := s.Make(i, num(int64(i))); n != i || e != api.OK {
			t.Fatalf("%d: %d, %v", i, n, e)
		}
	}
	for range 2 {
		if n, e := s.Make(7, num(7)); n != 0 || e != api.ErrFull || s.Len() != 100000 {
			t.Errorf("one more: %d, %v, %d", n, e, s.Len())
		}
	}
	f := s.Fork()
	if _, e := f.Make(1); e != api.ErrFull || f.Len() != store.Most || len(f.All()) != store.Most {
		t.Errorf("a fork: %v", e)
	}
	if v, e := s.Get(99999, 0); v != num(99999) || e != api.OK {
		t.Errorf("the last one: %v, %v", v, e)
	}
}

// Promise 33.3.
func TestZero(t *testing.T) {
	for s, want := range map[string]int{"int": api.VInt, "bool": api.VBool, "*t": api.VNil, "": api.VNil, "nil": api.VNil, "Int": api.VNil, "int ": api.VNil} {
		if got := store.Zero(s); got != (api.Val{Kind: want}) {
			t.Errorf("%q: %v", s, got)
		}
	}
}
