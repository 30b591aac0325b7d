package lower

import (
	"slices"

	"smithy/api"
	"smithy/scalar"
)

// expression makes what reckons one, and tells the variable that its word is in: a local's own, or a spare one, which is given back by who asked. No expression sets a local, so that its word stays there till all of the expression is reckoned. A row of operators is as deep on its left as it is long: a loop goes down it and back up, so that no row uses up the stack.
func (m *maker) expression(i int) int {
	var row []int
	for ofTwo(m.nodes[i].Kind) {
		row = append(row, i)
		i = m.nodes[i].Kids[0]
	}
	v := m.operand(i)
	for _, i := range slices.Backward(row) {
		if n := &m.nodes[i]; n.Kind == api.NodeBinary {
			v = m.joined(n.Op, v, m.expression(n.Kids[1]))
		} else {
			v = m.settled(n, v)
		}
	}
	return v
}

func ofTwo(kind api.NodeKind) bool {
	return kind == api.NodeBinary || kind == api.NodeBoth || kind == api.NodeEither
}

// operand makes what reckons an expression that is no operator of two.
func (m *maker) operand(i int) int {
	n := &m.nodes[i]
	switch n.Kind {
	case api.NodeName:
		return m.vars[m.info.Means[i]]
	case api.NodeItem:
		return m.item(m.arrays[m.info.Means[i]], m.expression(n.Kids[0]))
	case api.NodeCall:
		return m.call(i)
	case api.NodeCast:
		return m.cast(n.Type, m.expression(n.Kids[0]))
	case api.NodeUnary:
		v := m.expression(n.Kids[0])
		m.giveBack(v)
		return m.op(n.Op, v)
	}
	return m.constant(n.Type, n.Bits)
}

// into adds an instruction that sets a spare variable of a type, and tells which.
func (m *maker) into(t api.Type, x api.Ins, args ...int) int {
	x.Dst = m.take(t)
	m.put(x, args...)
	return x.Dst
}

// op adds an operation of one variable, or of two.
func (m *maker) op(op api.Op, args ...int) int {
	t, _ := scalar.Of(op, m.graph.Vars[args[0]])
	return m.into(t, api.Ins{Kind: api.InsOp, Op: op}, args...)
}

func (m *maker) constant(t api.Type, word uint64) int {
	return m.into(t, api.Ins{Kind: api.InsConst, Bits: word})
}

func (m *maker) joined(op api.Op, first, second int) int {
	if scalar.Stops(op, m.graph.Vars[second], 0) {
		m.askDivisor(second)
	}
	m.giveBack(first, second)
	return m.op(op, first, second)
}

// settled makes what reckons && or || behind its first operand; only if that does not settle it, the second one is reckoned.
func (m *maker) settled(n *api.Node, first int) int {
	v := first
	if !m.spare(v) {
		v = m.into(api.Bool, api.Ins{Kind: api.InsCopy}, first)
	}
	second, behind := m.newBlock(), m.newBlock()
	if n.Kind == api.NodeBoth {
		m.branch(v, second, behind, second)
	} else {
		m.branch(v, behind, second, second)
	}
	m.set(v, m.expression(n.Kids[1]))
	m.jump(behind, behind)
	return v
}

// set makes a variable what another one is, which is given back.
func (m *maker) set(v, from int) {
	m.put(api.Ins{Kind: api.InsCopy, Dst: v}, from)
	m.giveBack(from)
}

func (m *maker) item(array, index int) int {
	m.askIndex(array, index)
	m.giveBack(index)
	return m.into(m.graph.Arrays[array].Type, api.Ins{Kind: api.InsLoad, Ref: array}, index)
}

func (m *maker) call(i int) int {
	var args []int
	for _, kid := range m.nodes[i].Kids {
		args = append(args, m.expression(kid))
	}
	m.giveBack(args...)
	return m.into(m.info.Types[i], api.Ins{Kind: api.InsCall, Ref: m.info.Means[i]}, args...)
}

func (m *maker) cast(t api.Type, v int) int {
	if m.graph.Vars[v] == api.F64 && t != api.F64 {
		m.askRange(t, v)
	}
	m.giveBack(v)
	return m.into(t, api.Ins{Kind: api.InsCast}, v)
}
