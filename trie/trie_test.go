package trie_test

import (
	"fmt"
	"reflect"
	"slices"
	"strings"
	"testing"

	"gramarye/api"
	"gramarye/pack"
	"gramarye/trie"
)

func leaf(n int) trie.Node { return trie.Node{Leaf: n} }

func inner(l ...int) trie.Node {
	x := trie.Node{Leaf: -1}
	for i := 0; i < len(l); i += 2 {
		x.Toks, x.Kids = append(x.Toks, l[i]), append(x.Kids, l[i+1])
	}
	return x
}

// Promise 18.1: tries, by a table.
func TestMake(t *testing.T) {
	for _, x := range []struct {
		k    int
		sets [][]string
		want []trie.Node
	}{
		{1, nil, []trie.Node{inner()}},
		{4, [][]string{nil, {}}, []trie.Node{inner()}},
		{1, [][]string{{"\x01"}, {"\x02"}}, []trie.Node{inner(1, 1, 2, 2), leaf(0), leaf(1)}},
		{1, [][]string{nil, {"\xff", "\x00", "\xff"}, {"\x05"}}, []trie.Node{inner(0, 1, 5, 2, 255, 3), leaf(1), leaf(2), leaf(1)}},
		{2, [][]string{{"\x02\x01", "\x01\x03"}, {"\x01\x00", "\x02\x02"}}, []trie.Node{inner(1, 1, 2, 4), inner(0, 2, 3, 3), leaf(1), leaf(0), inner(1, 5, 2, 6), leaf(0), leaf(1)}},
		{4, [][]string{{"\x01\x02\x03\x04"}}, []trie.Node{inner(1, 1), inner(2, 2), inner(3, 3), inner(4, 4), leaf(0)}},
	} {
		got, e := trie.Make(x.k, x.sets...)
		if e != api.OK || !reflect.DeepEqual(got, trie.Trie{K: x.k, L: x.want}) {
			t.Errorf("%q: %v, %v, want %v", x.sets, got, e, x.want)
		}
		if !trie.May(got) {
			t.Errorf("%q: may not be", x.sets)
		}
	}
}

// texts makes that many texts of k bytes.
func texts(n, k int) []string {
	var l []string
	for i := range n {
		l = append(l, string([]byte{byte(i), byte(i >> 8), byte(i >> 16), 0}[:k]))
	}
	return l
}

// Promise 18.1: errors, in their order.
func TestWrong(t *testing.T) {
	many := make([][]string, api.MaxCode+2)
	late := slices.Clone(many)
	many[api.MaxCode-1] = []string{"a"}
	late[api.MaxCode] = []string{"a"}
	for i, x := range []struct {
		k    int
		sets [][]string
		want api.Errno
	}{
		{0, [][]string{{"a"}, {"a"}}, api.ErrArg},
		{5, nil, api.ErrArg},
		{-1, nil, api.ErrArg},
		{2, [][]string{{"ab", "ac"}, {"b"}}, api.ErrForm},
		{1, [][]string{{""}}, api.ErrForm},
		{1, [][]string{{"a"}, {"a"}, {"bb"}}, api.ErrForm},
		{1, [][]string{{"a"}, {"b", "a"}}, api.ErrClash},
		{1, [][]string{{"a", "a"}, {"b", "b"}}, api.OK},
		{3, [][]string{texts(api.MaxCode, 3), texts(1, 3)}, api.ErrClash},
		{3, [][]string{texts(api.MaxCode, 3)}, api.ErrFull},
		{2, [][]string{texts(api.MaxCode-256-1, 2)}, api.OK},
		{2, [][]string{texts(api.MaxCode-256, 2)}, api.ErrFull},
		{1, many, api.OK},
		{1, late, api.ErrFull},
	} {
		got, e := trie.Make(x.k, x.sets...)
		if e != x.want || e != api.OK && !reflect.DeepEqual(got, trie.Trie{}) || trie.May(got) != (e == api.OK) {
			t.Errorf("%d: %d nodes, %v, want %v", i, len(got.L), e, x.want)
		}
	}
	if full, _ := trie.Make(2, texts(api.MaxCode-256-1, 2)); len(full.L) != api.MaxCode {
		t.Errorf("%d nodes", len(full.L))
	}
}

// Promise 18.1: what is no trie of any sets; and of that nothing is told, 18.2.
func TestMayNot(t *testing.T) {
	big := trie.Trie{K: 1, L: []trie.Node{{Leaf: -1}}}
	for i := range 255 {
		big.L[0].Toks, big.L[0].Kids = append(big.L[0].Toks, i), append(big.L[0].Kids, i+1)
		big.L = append(big.L, leaf(i))
	}
	if !trie.May(big) {
		t.Errorf("a wide one")
	}
	for i, x := range []trie.Trie{
		{},
		{K: 1},
		{K: 0, L: []trie.Node{leaf(0)}},
		{K: 5, L: []trie.Node{inner()}},
		{K: -1, L: []trie.Node{inner()}},
		{K: 1, L: []trie.Node{leaf(0)}},
		{K: 1, L: []trie.Node{inner(1, 1)}},
		{K: 1, L: []trie.Node{inner(1, 1), leaf(-1)}},
		{K: 1, L: []trie.Node{inner(1, 1), leaf(-2)}},
		{K: 1, L: []trie.Node{inner(1, 1), leaf(api.MaxCode)}},
		{K: 1, L: []trie.Node{inner(1, 1), leaf(0), leaf(0)}},
		{K: 1, L: []trie.Node{inner(1, 0), leaf(0)}},
		{K: 1, L: []trie.Node{inner(1, 2), leaf(0)}},
		{K: 1, L: []trie.Node{inner(1, -1), leaf(0)}},
		{K: 1, L: []trie.Node{inner(2, 1, 1, 2), leaf(0), leaf(0)}},
		{K: 1, L: []trie.Node{inner(1, 1, 1, 2), leaf(0), leaf(0)}},
		{K: 1, L: []trie.Node{inner(1, 2, 2, 1), leaf(0), leaf(0)}},
		{K: 1, L: []trie.Node{inner(1, 1, 2, 1), leaf(0)}},
		{K: 1, L: []trie.Node{inner(256, 1), leaf(0)}},
		{K: 1, L: []trie.Node{inner(-1, 1), leaf(0)}},
		{K: 1, L: []trie.Node{{Leaf: 0, Toks: []int{1}, Kids: []int{1}}, leaf(0)}},
		{K: 1, L: []trie.Node{{Leaf: -2, Toks: []int{1}, Kids: []int{1}}, leaf(0)}},
		{K: 1, L: []trie.Node{{Leaf: -1, Toks: []int{1, 2}, Kids: []int{1}}, leaf(0)}},
		{K: 1, L: []trie.Node{{Leaf: -1, Kids: []int{1}}, leaf(0)}},
		{K: 1, L: []trie.Node{inner(1, 1), {Leaf: 0, Toks: []int{1}}}},
		{K: 1, L: []trie.Node{inner(1, 1), {Leaf: 0, Kids: []int{1}}}},
		{K: 2, L: []trie.Node{inner(1, 1), leaf(0)}},
		{K: 2, L: []trie.Node{inner(1, 1), inner()}},
		{K: 2, L: []trie.Node{inner(1, 1), inner(1, 2), inner(1, 3), leaf(0)}},
		{K: 2, L: []trie.Node{inner(1, 1, 2, 2), inner(1, 3), inner(1, 4), leaf(0), leaf(0)}},
		{K: 1, L: append(slices.Clone(big.L), make([]trie.Node, api.MaxCode)...)},
	} {
		if trie.May(x) || x.Choose("\x01") != -1 || x.Choose("") != -1 || len(x.Sets()) != 0 || len(x.Heads()) != 0 {
			t.Errorf("%d: it may be, or something is told of it", i)
		}
	}
}

// Promises 18.2 and 18.3: what was made chooses, and tells its sets.
func TestBack(t *testing.T) {
	for k := 1; k <= 4; k++ {
		for mask := range 5 * 5 * 5 * 5 {
			sets := make([][]string, 5)
			for i, m := 0, mask; i < 4; i, m = i+1, m/5 {
				s := strings.Repeat(string(rune('a'+i)), k-1) + fmt.Sprint(i%3)
				sets[m%5] = append(sets[m%5], s, s)
				sets[4] = append(sets[4], strings.Repeat("z", k-1)+fmt.Sprint(i))
			}
			x, e := trie.Make(k, sets...)
			if k == 1 && e == api.ErrClash {
				continue
			}
			if e != api.OK || x.K != k || !trie.May(x) {
				t.Fatalf("%q: %v", sets, e)
			}
			var all []string
			back := x.Sets()
			for i, set := range sets {
				all = append(all, set...)
				if !slices.Equal(back[i], pack.Make(set...)) {
					t.Fatalf("%q: sets %q", sets, back)
				}
				for _, s := range set {
					if x.Choose(s) != i || x.Choose(s+"a") != -1 || x.Choose(s[1:]) != -1 {
						t.Fatalf("%q: %q chooses %d", sets, s, x.Choose(s))
					}
				}
			}
			if len(back) != 5 || !slices.Equal(x.Heads(), pack.Heads(all)) || x.Choose("zzzzz"[:k]) != -1 {
				t.Fatalf("%q: %d sets, heads %v", sets, len(back), x.Heads())
			}
		}
	}
	x, _ := trie.Make(1, nil, nil, []string{"b", "a"}, nil)
	if got := x.Sets(); !slices.EqualFunc(got, [][]string{nil, nil, {"a", "b"}}, slices.Equal) {
		t.Errorf("%q", got)
	}
	h := x.Heads()
	h[0] = 0
	if !slices.Equal(x.Heads(), []int{'a', 'b'}) {
		t.Errorf("heads share something")
	}
}
