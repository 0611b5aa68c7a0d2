// Package flip turns programs round that are put together from below: what the layers share that make programs.
package flip

import (
	"slices"

	"gramarye/api"
)

// Over turns a program whose nodes stand behind their children, so that each stands ahead of them; c is used up by that.
func Over(c api.Code) api.Code {
	last := len(c.L) - 1
	turn := func(k *int) {
		if *k >= 0 {
			*k = last - *k
		}
	}
	for i := range c.Funcs {
		turn(&c.Funcs[i].Body)
	}
	for i := range c.L {
		x := &c.L[i]
		turn(&x.A)
		turn(&x.B)
		turn(&x.C)
		for j := range x.L {
			turn(&x.L[j])
		}
		for j := range x.Cases {
			turn(&x.Cases[j].Body)
		}
	}
	slices.Reverse(c.L)
	return c
}
