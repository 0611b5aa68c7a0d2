package parse

import (
	"slices"

	"gramarye/api"
	"gramarye/code"
)

// beginsExpr tells whether an expression begins here.
func (r *reader) beginsExpr() bool {
	t := r.peek()
	switch t.Kind {
	case api.KName, api.KNum:
		return true
	case api.KWord:
		return slices.Contains([]string{"true", "false", "nil", "new", "look"}, t.S)
	}
	return t.Kind == api.KSign && slices.Contains([]string{"(", "!", "-"}, t.S)
}

// expr reads an expression whose operators outside of brackets are at least so tight.
func (r *reader) expr(least int) int {
	a := r.unary()
	for r.e == api.OK {
		op, tight := operator(r.peek())
		if tight < least {
			break
		}
		r.at++
		a = r.putBin(op, a, r.expr(tight+1))
	}
	return a
}

// putBin puts an XBin behind the others.
func (r *reader) putBin(op, a, b int) int {
	x := code.Leaf(api.XBin)
	x.N, x.A, x.B = op, a, b
	return r.put(x)
}

// putNamed puts a node that has a name behind the others; a is below it, or -1.
func (r *reader) putNamed(kind int, name string, a int) int {
	x := code.Leaf(kind)
	x.Name, x.A = name, a
	return r.put(x)
}

// putCall puts an XCall behind the others.
func (r *reader) putCall(name string, l []int) int {
	x := code.Leaf(api.XCall)
	x.Name, x.L = name, l
	return r.put(x)
}

// operator tells the operator that a token is between two expressions, and how tight it is; 0 and 0, if it is none.
func operator(t api.Token) (int, int) {
	if t.Kind != api.KSign {
		return 0, 0
	}
	switch t.S {
	case "||":
		return api.OOr, 1
	case "&&":
		return api.OAnd, 2
	case "==":
		return api.OSame, 3
	case "!=":
		return api.OElse, 3
	case "<":
		return api.OLess, 3
	case "<=":
		return api.OMost, 3
	case "+":
		return api.OAdd, 4
	case "-":
		return api.OSub, 4
	case "*":
		return api.OMul, 5
	}
	return 0, 0
}

// unary reads an expression without an operator between two others.
func (r *reader) unary() int {
	switch {
	case r.is(api.KSign, "!"):
		return r.signed("!", api.XNot)
	case r.is(api.KSign, "-"):
		return r.signed("-", api.XNeg)
	}
	a := r.atom()
	for r.e == api.OK && r.take(api.KSign, ".") {
		a = r.putNamed(api.XField, r.need(api.KName).S, a)
	}
	return a
}

// signed reads an expression with a sign ahead.
func (r *reader) signed(s string, kind int) int {
	if !r.enter(s) {
		return -1
	}
	defer r.leave()
	return r.putNamed(kind, "", r.unary())
}

// atom reads an expression without an operator.
func (r *reader) atom() int {
	t := r.peek()
	switch {
	case t.Kind == api.KName || t.Kind == api.KWord && t.S == "look":
		return r.named()
	case t.Kind == api.KSign && t.S == "(":
		return r.bracket()
	case t.Kind == api.KWord && t.S == "new":
		return r.made()
	}
	return r.plain()
}

// plain reads an expression of one token.
func (r *reader) plain() int {
	t := r.peek()
	x := code.Leaf(api.XInt)
	switch {
	case t.Kind == api.KNum:
		x.N = t.N
	case t.Kind == api.KWord && t.S == "true":
		x.Kind, x.N = api.XBool, 1
	case t.Kind == api.KWord && t.S == "false":
		x.Kind = api.XBool
	case t.Kind == api.KWord && t.S == "nil":
		x.Kind = api.XNil
	default:
		r.fail(t.Pos, api.ErrText)
		return -1
	}
	r.at++
	return r.put(x)
}

// made reads a new.
func (r *reader) made() int {
	r.must(api.KWord, "new")
	r.sign("(")
	s := r.need(api.KName).S
	r.sign(")")
	return r.putNamed(api.XNew, s, -1)
}

// bracket reads an expression in round brackets.
func (r *reader) bracket() int {
	if !r.enter("(") {
		return -1
	}
	defer r.leave()
	a := r.expr(1)
	r.sign(")")
	return a
}

// named reads a call, or a name that is none.
func (r *reader) named() int {
	t := r.peek()
	r.at++
	if t.Kind == api.KName && !r.is(api.KSign, "(") {
		return r.putNamed(api.XVar, t.S, -1)
	}
	// A program with so many calls within each other may not be, whatever follows.
	if r.calls == mostCalls {
		r.fail(0, api.ErrDeep)
	}
	r.sign("(")
	r.calls++
	var l []int
	if r.e == api.OK && !r.is(api.KSign, ")") {
		l = append(l, r.expr(1))
		for r.e == api.OK && r.take(api.KSign, ",") {
			l = append(l, r.expr(1))
		}
	}
	r.sign(")")
	r.calls--
	return r.putCall(t.S, l)
}
