// Package row puts the sets of a row's symbols together: what the layers share that look ahead.
package row

import (
	"slices"

	"gramarye/api"
	"gramarye/pack"
	"gramarye/tuple"
)

// Of tells what a row stands for, cat putting two sets together; false, if what some of its first symbols stand for is more than most.
func Of(l []api.Sym, sets [][]string, most int, cat func(a, b []string) []string) ([]string, bool) {
	r := []string{""}
	for _, s := range l {
		r = cat(r, Set(s, sets))
		if len(r) > most {
			return nil, false
		}
	}
	return r, true
}

// Set tells what a symbol stands for.
func Set(s api.Sym, sets [][]string) []string {
	if s.Tok {
		return []string{tuple.Of(s.N)}
	}
	return sets[s.N]
}

// Ahead makes a function that puts together sets of texts of at most k bytes; its answer may be one of them.
func Ahead(k int) func(a, b []string) []string {
	return func(a, b []string) []string {
		switch {
		case len(b) == 0 || nothing(a):
			return b
		case nothing(b) || whole(a, k):
			return a
		}
		return pack.Cat(a, b, k)
	}
}

// nothing tells whether only the empty text is in a set.
func nothing(a []string) bool { return len(a) == 1 && a[0] == "" }

// whole tells whether nothing can stand behind any text of a set.
func whole(a []string, k int) bool {
	return !slices.ContainsFunc(a, func(t string) bool { return len(t) < k })
}
