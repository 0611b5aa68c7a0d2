// Package move moves the nodes of programs: what the layers share that put programs together, or in another order.
package move

import (
	"slices"

	"gramarye/api"
)

// Node tells a node whose children stand where to tells; -1 stays as it is.
func Node(x api.Cnode, to func(int) int) api.Cnode {
	for _, k := range []*int{&x.A, &x.B, &x.C} {
		if *k != -1 {
			*k = to(*k)
		}
	}
	x.L = slices.Clone(x.L)
	for i, k := range x.L {
		x.L[i] = to(k)
	}
	x.Cases = slices.Clone(x.Cases)
	for i, k := range x.Cases {
		x.Cases[i] = api.Case{L: slices.Clone(k.L), Body: to(k.Body)}
	}
	return x
}

// Over tells a program whose nodes stand the other way round, so that those that stood behind their children stand ahead of them.
func Over(c api.Code) api.Code {
	last := len(c.L) - 1
	turn := func(k int) int { return last - k }
	r := api.Code{Name: c.Name, Structs: c.Structs}
	for _, f := range c.Funcs {
		f.Body = turn(f.Body)
		r.Funcs = append(r.Funcs, f)
	}
	for _, x := range slices.Backward(c.L) {
		r.L = append(r.L, Node(x, turn))
	}
	return r
}
