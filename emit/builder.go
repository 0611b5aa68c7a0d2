package emit

import (
	"gramarye/api"
	"gramarye/code"
)

// builder puts a program together, each node behind its children.
type builder struct {
	c api.Code
}

// put puts a node behind the others, and tells its place.
func (b *builder) put(x api.Cnode) int {
	b.c.L = append(b.c.L, x)
	return len(b.c.L) - 1
}

// over puts a node of a kind over others; -1 is none.
func (b *builder) over(kind, x, y int) int {
	n := code.Leaf(kind)
	n.A, n.B = x, y
	return b.put(n)
}

// named puts a node that has a name over another one; -1 is none.
func (b *builder) named(kind int, name string, x int) int {
	n := code.Leaf(kind)
	n.Name, n.A = name, x
	return b.put(n)
}

// number puts a number.
func (b *builder) number(n int) int {
	x := code.Leaf(api.XInt)
	x.N = n
	return b.put(x)
}

// truth puts a truth.
func (b *builder) truth(n int) int {
	x := code.Leaf(api.XBool)
	x.N = n
	return b.put(x)
}

// name puts a name.
func (b *builder) name(s string) int { return b.named(api.XVar, s, -1) }

// field puts a field of what a name has.
func (b *builder) field(name, field string) int { return b.named(api.XField, field, b.name(name)) }

// operate puts an operator between two expressions.
func (b *builder) operate(op, x, y int) int {
	n := code.Leaf(api.XBin)
	n.N, n.A, n.B = op, x, y
	return b.put(n)
}

// call puts a call, as an expression.
func (b *builder) call(name string, l ...int) int {
	x := code.Leaf(api.XCall)
	x.Name, x.L = name, l
	return b.put(x)
}

// do puts a call, as a statement.
func (b *builder) do(name string, l ...int) int { return b.over(api.SCall, b.call(name, l...), -1) }

// block puts a block.
func (b *builder) block(l ...int) int {
	x := code.Leaf(api.SBlock)
	x.L = l
	return b.put(x)
}

// define puts what a name has at first.
func (b *builder) define(name string, x int) int { return b.named(api.SVar, name, x) }

// set puts what a place has from then on.
func (b *builder) set(place, x int) int { return b.over(api.SSet, place, x) }

// give puts a return of something.
func (b *builder) give(x int) int { return b.over(api.SReturn, x, -1) }

// table puts a switch; other is the block of its default, or -1.
func (b *builder) table(x, other int, l []api.Case) int {
	n := code.Leaf(api.SSwitch)
	n.A, n.B, n.Cases = x, other, l
	return b.put(n)
}

// function puts a function behind the others.
func (b *builder) function(name, result string, params []api.Field, l ...int) {
	b.c.Funcs = append(b.c.Funcs, api.Func{Name: name, Params: params, Result: result, Body: b.block(l...)})
}
