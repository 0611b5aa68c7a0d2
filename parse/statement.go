package parse

import (
	"slices"

	"gramarye/api"
	"gramarye/code"
)

// block reads a block.
func (r *reader) block() int {
	if !r.enter("{") {
		return -1
	}
	defer r.leave()
	r.sign("\n")
	i := r.statements()
	r.sign("}")
	return i
}

// statements reads statements as those of a block.
func (r *reader) statements() int {
	x := code.Leaf(api.SBlock)
	for r.e == api.OK && r.begins() {
		x.L = append(x.L, r.statement())
		r.sign("\n")
	}
	return r.put(x)
}

// begins tells whether a statement begins here.
func (r *reader) begins() bool {
	t := r.peek()
	return t.Kind == api.KWord && slices.Contains([]string{"if", "for", "switch", "return"}, t.S) || r.beginsExpr()
}

// statement reads a statement.
func (r *reader) statement() int {
	switch {
	case r.is(api.KWord, "if"):
		return r.choice()
	case r.take(api.KWord, "for"):
		x := code.Leaf(api.SFor)
		x.A = r.expr(1)
		x.B = r.block()
		return r.put(x)
	case r.take(api.KWord, "switch"):
		return r.table()
	case r.take(api.KWord, "return"):
		x := code.Leaf(api.SReturn)
		if r.beginsExpr() {
			x.A = r.expr(1)
		}
		return r.put(x)
	}
	return r.simple()
}

// simple reads a statement that begins with an expression.
func (r *reader) simple() int {
	a := r.expr(1)
	if r.e != api.OK {
		return -1
	}
	t, kind := r.peek(), r.c.L[a].Kind
	switch {
	case kind == api.XVar && r.take(api.KSign, ":="):
		x := code.Leaf(api.SVar)
		// The name, which was put last, is no node of its own.
		x.Name = r.c.L[a].Name
		r.c.L = r.c.L[:a]
		x.A = r.expr(1)
		return r.put(x)
	case (kind == api.XVar || kind == api.XField) && r.take(api.KSign, "="):
		x := code.Leaf(api.SSet)
		x.A = a
		x.B = r.expr(1)
		return r.put(x)
	case kind == api.XCall && !r.is(api.KSign, "=") && !r.is(api.KSign, ":="):
		x := code.Leaf(api.SCall)
		x.A = a
		return r.put(x)
	}
	r.fail(t.Pos, api.ErrText)
	return -1
}

// choice reads an if, and what else there is.
func (r *reader) choice() int {
	r.must(api.KWord, "if")
	x := code.Leaf(api.SIf)
	x.A = r.expr(1)
	x.B = r.block()
	switch {
	case r.e != api.OK || !r.take(api.KWord, "else"):
	case r.is(api.KWord, "if"):
		x.C = r.choice()
	default:
		x.C = r.block()
	}
	return r.put(x)
}

// table reads a switch, behind its first word.
func (r *reader) table() int {
	x := code.Leaf(api.SSwitch)
	x.A = r.expr(1)
	if !r.enter("{") {
		return -1
	}
	defer r.leave()
	r.sign("\n")
	for r.e == api.OK && r.take(api.KWord, "case") {
		l := []int{r.need(api.KNum).N}
		for r.e == api.OK && r.take(api.KSign, ",") {
			l = append(l, r.need(api.KNum).N)
		}
		x.Cases = append(x.Cases, api.Case{L: l, Body: r.behindColon()})
	}
	if r.take(api.KWord, "default") {
		x.B = r.behindColon()
	}
	r.sign("}")
	return r.put(x)
}

// behindColon reads a colon, and the statements of a case.
func (r *reader) behindColon() int {
	r.sign(":")
	r.sign("\n")
	return r.statements()
}
