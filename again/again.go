// Package again looks at places till nothing changes any more: what the layers share that let something grow.
package again

import (
	"slices"

	"gramarye/api"
)

// Asks tells of each nonterminal the productions in which it stands.
func Asks(b api.Bnf) map[int][]int {
	asks := map[int][]int{}
	for i, p := range b.L {
		for _, s := range p.Right {
			if l := asks[s.N]; !s.Tok && (len(l) == 0 || l[len(l)-1] != i) {
				asks[s.N] = append(l, i)
			}
		}
	}
	return asks
}

// Settle looks at each place below n, and again at those that ask for what a look changed. A look tells what it changed, or -1 for nothing, and whether to go on.
func Settle(n int, asks map[int][]int, look func(int) (int, bool)) {
	waits := make([]bool, n)
	var list []int
	for i := range n {
		waits[i] = true
		list = append(list, i)
	}
	// What stands behind is mostly asked for by what stands ahead.
	slices.Reverse(list)
	for at := 0; at < len(list); at++ {
		i := list[at]
		waits[i] = false
		changed, on := look(i)
		if !on {
			return
		}
		if changed < 0 {
			continue
		}
		for _, j := range asks[changed] {
			if !waits[j] {
				waits[j] = true
				list = append(list, j)
			}
		}
	}
}
