package machine

import (
	"slices"

	"gramarye/api"
)

// table notes what is done at first with each kind of node, and what at the end, where there is more than one thing to do.
func (m *machine) table() {
	m.does = [18 + 1]func(n, i int){
		api.XInt: m.number, api.XBool: m.truth, api.XNil: m.null, api.XVar: m.name, api.XNot: m.first, api.XNeg: m.first, api.XBin: m.bin,
		api.XCall: m.members, api.XField: m.first, api.XNew: m.object, api.SBlock: m.block, api.SVar: m.first, api.SSet: m.set,
		api.SIf: m.first, api.SFor: m.first, api.SSwitch: m.first, api.SReturn: m.giveBack, api.SCall: m.first,
	}
	m.ends = [18 + 1]func(n, i int){
		api.XNot: m.endNot, api.XNeg: m.endNeg, api.XBin: m.endBin, api.XCall: m.endCall, api.XField: m.endField, api.SBlock: m.block, api.SVar: m.endVar,
		api.SSet: m.endSet, api.SIf: m.endIf, api.SFor: m.endFor, api.SSwitch: m.endSwitch, api.SReturn: m.endReturn, api.SCall: m.drop,
	}
	m.next, m.place, m.off = m.node, m.stand, m.fallOff
}

// put notes a piece, to be done ahead of all others.
func (m *machine) put(do func(n, i int), n, i int) { m.list = append(m.list, piece{do, n, i}) }

// later notes that a node is to be done.
func (m *machine) later(n int) { m.put(m.next, n, 0) }

// end notes what is to be done with a node at the end.
func (m *machine) end(n int) { m.put(m.ends[m.c.L[n].Kind], n, 0) }

// push keeps a value to be used.
func (m *machine) push(v api.Val) { m.vals = append(m.vals, v) }

// pop tells the last value that is kept, which is kept no more.
func (m *machine) pop() api.Val {
	last := len(m.vals) - 1
	v := m.vals[last]
	m.vals = m.vals[:last]
	return v
}

// slot tells where the value of a node's name stands.
func (m *machine) slot(n int) *api.Val { return &m.names[m.calls[len(m.calls)-1].names+m.of[n]] }

// stop ends the run.
func (m *machine) stop(kind int) { m.out.Kind = kind }

// step takes a step, if there is fuel for it.
func (m *machine) step() bool {
	if m.steps == m.fuel {
		m.stop(api.OutFuel)
		return false
	}
	m.steps++
	return true
}

// node does a node.
func (m *machine) node(n, _ int) {
	if m.step() {
		m.does[m.c.L[n].Kind](n, 0)
	}
}

// enter calls a function, whose parameters' values are those kept last.
func (m *machine) enter(f int) {
	if len(m.calls) == mostCalls {
		m.stop(api.OutDeep)
		return
	}
	params := len(m.vals) - len(m.c.Funcs[f].Params)
	m.calls = append(m.calls, call{len(m.list), params, len(m.names)})
	m.names = append(m.names, m.vals[params:]...)
	m.names = append(m.names, make([]api.Val, m.slots[f]-len(m.vals)+params)...)
	m.vals = m.vals[:params]
	m.put(m.off, 0, 0)
	m.later(m.c.Funcs[f].Body)
}

// leave ends the last call with a value.
func (m *machine) leave(v api.Val) {
	last := len(m.calls) - 1
	c := m.calls[last]
	m.calls = m.calls[:last]
	m.list, m.vals, m.names = m.list[:c.pieces], m.vals[:c.vals], m.names[:c.names]
	if last == 0 {
		m.out.V = v
		m.stop(api.OutDone)
		return
	}
	m.push(v)
}

// fallOff ends a call behind its function's last statement.
func (m *machine) fallOff(_, _ int) { m.leave(api.Val{}) }

// number has an XInt's value.
func (m *machine) number(n, _ int) { m.push(api.Val{Kind: api.VInt, N: int64(m.c.L[n].N)}) }

// truth has an XBool's value.
func (m *machine) truth(n, _ int) { m.push(api.Val{Kind: api.VBool, N: int64(m.c.L[n].N)}) }

// null has an XNil's value.
func (m *machine) null(_, _ int) { m.push(api.Val{Kind: api.VNil}) }

// name has the value of an XVar's name.
func (m *machine) name(n, _ int) { m.push(*m.slot(n)) }

// first does A, and then what is at the end.
func (m *machine) first(n, _ int) {
	m.end(n)
	m.later(m.c.L[n].A)
}

// endNot has the other truth.
func (m *machine) endNot(_, _ int) { m.push(truth(m.pop().N == 0)) }

// endNeg has 0 less the number.
func (m *machine) endNeg(_, _ int) { m.push(api.Val{Kind: api.VInt, N: -m.pop().N}) }

// bin does A, and B, if that is not left to the end.
func (m *machine) bin(n, _ int) {
	x := m.c.L[n]
	m.end(n)
	if x.N != api.OOr && x.N != api.OAnd {
		m.later(x.B)
	}
	m.later(x.A)
}

// endBin has the value of an XBin's operator; of OOr and OAnd it does B, if A has not told it.
func (m *machine) endBin(n, _ int) {
	x := m.c.L[n]
	b := m.pop()
	switch {
	case x.N == api.OOr && b.N == 0, x.N == api.OAnd && b.N == 1:
		m.later(x.B)
	case x.N == api.OOr, x.N == api.OAnd:
		m.push(b)
	default:
		m.push(operate(x.N, m.pop(), b))
	}
}

// operate tells the value of an operator for which both sides are done.
func operate(op int, a, b api.Val) api.Val {
	switch op {
	case api.OSame:
		return truth(a == b)
	case api.OElse:
		return truth(a != b)
	case api.OLess:
		return truth(a.N < b.N)
	case api.OMost:
		return truth(a.N <= b.N)
	case api.OAdd:
		return api.Val{Kind: api.VInt, N: a.N + b.N}
	case api.OSub:
		return api.Val{Kind: api.VInt, N: a.N - b.N}
	}
	return api.Val{Kind: api.VInt, N: a.N * b.N}
}

// truth tells a truth as a value.
func truth(is bool) api.Val {
	if is {
		return api.Val{Kind: api.VBool, N: 1}
	}
	return api.Val{Kind: api.VBool}
}

// members does a call's members, and then the call.
func (m *machine) members(n, _ int) {
	m.end(n)
	for _, k := range slices.Backward(m.c.L[n].L) {
		m.later(k)
	}
}

// endCall calls the function, or looks at the word.
func (m *machine) endCall(n, _ int) {
	if m.of[n] >= 0 {
		m.enter(m.of[n])
		return
	}
	at, v := m.pop().N, api.Val{Kind: api.VInt}
	if at >= 0 && at < int64(len(m.w)) {
		v.N = int64(m.w[at])
	}
	m.push(v)
}

// endField has the value of an object's field.
func (m *machine) endField(n, _ int) {
	o := m.pop()
	if o.Kind == api.VNil {
		m.stop(api.OutNil)
		return
	}
	v, _ := m.made.Get(int(o.N), m.of[n])
	m.push(v)
}

// object has an object more.
func (m *machine) object(n, _ int) {
	i, e := m.made.Make(m.of[n], m.zeros[m.of[n]]...)
	if e != api.OK {
		m.stop(api.OutFull)
		return
	}
	m.push(api.Val{Kind: api.VRef, N: int64(i)})
}

// block does a block's statements from the i-th on.
func (m *machine) block(n, i int) {
	if l := m.c.L[n].L; i < len(l) {
		m.put(m.ends[api.SBlock], n, i+1)
		m.later(l[i])
	}
}

// endVar gives a name its first value.
func (m *machine) endVar(n, _ int) { *m.slot(n) = m.pop() }

// set does the place of an SSet, then its value.
func (m *machine) set(n, _ int) {
	m.end(n)
	m.later(m.c.L[n].B)
	m.put(m.place, m.c.L[n].A, 0)
}

// stand does the place of an SSet.
func (m *machine) stand(n, _ int) {
	if m.step() && m.c.L[n].Kind == api.XField {
		m.later(m.c.L[n].A)
	}
}

// endSet gives a name, or a field, a value.
func (m *machine) endSet(n, _ int) {
	v, at := m.pop(), m.c.L[n].A
	if m.c.L[at].Kind == api.XVar {
		*m.slot(at) = v
		return
	}
	o := m.pop()
	if o.Kind == api.VNil {
		m.stop(api.OutNil)
		return
	}
	m.made.Set(int(o.N), m.of[at], v)
}

// endIf does B, or C, if there is one.
func (m *machine) endIf(n, _ int) {
	x := m.c.L[n]
	if m.pop().N == 1 {
		m.later(x.B)
	} else if x.C != -1 {
		m.later(x.C)
	}
}

// endFor does B, and the whole again, as long as it should.
func (m *machine) endFor(n, _ int) {
	if m.pop().N == 1 {
		m.later(n)
		m.later(m.c.L[n].B)
	}
}

// endSwitch does the first case that has the number, or B, if there is one.
func (m *machine) endSwitch(n, _ int) {
	x, v := m.c.L[n], m.pop()
	for _, k := range x.Cases {
		if slices.ContainsFunc(k.L, func(c int) bool { return int64(c) == v.N }) {
			m.later(k.Body)
			return
		}
	}
	if x.B != -1 {
		m.later(x.B)
	}
}

// giveBack ends a call, or does first what it is to have as its value.
func (m *machine) giveBack(n, i int) {
	if m.c.L[n].A == -1 {
		m.leave(api.Val{})
		return
	}
	m.first(n, i)
}

// endReturn ends a call with a value.
func (m *machine) endReturn(_, _ int) { m.leave(m.pop()) }

// drop uses a value for nothing.
func (m *machine) drop(_, _ int) { m.pop() }
