package lower

import (
	"math"

	"smithy/api"
)

// An operation makes something of whatever it is handed. Where the source has a trap a block asks ahead of the operation, and branches to one that ends in that trap.

func (m *maker) askDivisor(v int) {
	zero := m.constant(m.graph.Vars[v], 0)
	bad := m.op(api.OpEq, v, zero)
	m.giveBack(zero, bad)
	on := m.newBlock()
	m.branch(bad, m.trap(api.TrapZero), on, on)
}

func (m *maker) askIndex(array, v int) {
	size := uint64(m.graph.Arrays[array].Size)
	m.askBetween(v, api.OpLe, 0, size, api.TrapIndex)
}

func (m *maker) askRange(t api.Type, v int) {
	below, above := beyond(t)
	m.askBetween(v, api.OpLt, math.Float64bits(below), math.Float64bits(above), api.TrapRange)
}

// beyond is the floats next to those whose whole part is one of a type's numbers.
func beyond(t api.Type) (below, above float64) {
	switch t {
	case api.U8:
		return -1, 1 << 8
	case api.I32:
		return -1<<31 - 1, 1 << 31
	}
	// There is no float in between this one and the least number.
	return -1<<63 - 1<<11, 1 << 63
}

// askBetween asks whether low lies below a variable, by the comparison that is handed in, and the variable below high. Of a NaN neither holds.
func (m *maker) askBetween(v int, op api.Op, low, high uint64, trap api.Trap) {
	t := m.graph.Vars[v]
	least, end := m.constant(t, low), m.constant(t, high)
	first, second := m.op(op, least, v), m.op(api.OpLt, v, end)
	m.giveBack(least, end, first, second)
	good := m.op(api.OpAnd, first, second)
	m.giveBack(good)
	on := m.newBlock()
	m.branch(good, on, m.trap(trap), on)
}

// trap is the block of a function that ends in a trap.
func (m *maker) trap(t api.Trap) int {
	b, there := m.traps[t]
	if !there {
		b = m.newBlock()
		m.graph.Blocks[b].Term = api.Term{Kind: api.TermTrap, Trap: t}
		m.traps[t] = b
	}
	return b
}
