package ssa

import (
	"maps"
	"slices"

	"smithy/api"
	"smithy/shape"
)

// maker makes a graph anew, in which each setting has a variable of its own.
type maker struct {
	net
	g     api.Graph // its blocks are the maker's own, and change; its variables are those of before
	phis  [][]int   // for each block the variables that need a phi there
	heads [][]api.Ins
	heft  []int // how much a block asks, with those that it stands over
	vars  []api.Type
	zeros map[api.Type]int
	first []api.Ins // what sets the zeros, ahead of all else of the entry
}

// naming is what variables are now, by what they were. What is not in it was never set, and is 0.
type naming map[int]int

// visit is a block to be gone through, and what variables are ahead of it. Where that is shared others need it yet.
type visit struct {
	block  int
	now    naming
	shared bool
}

func newMaker(g api.Graph, n net, phis [][]int) *maker {
	m := &maker{net: n, g: g, phis: phis, heads: make([][]api.Ins, len(phis)), heft: make([]int, len(phis)), zeros: map[api.Type]int{}}
	for i, vars := range phis {
		for range vars {
			m.heads[i] = append(m.heads[i], api.Ins{Kind: api.InsPhi, Args: make([]int, len(n.ahead[i]))})
		}
	}
	for i := len(n.row) - 1; i >= 0; i-- {
		block := n.row[i]
		m.heft[block]++
		m.asked(block, func(int) { m.heft[block]++ })
		if over := n.nearest[block]; over != none {
			m.heft[over] += m.heft[block]
		}
	}
	return m
}

// down goes down the tree of blocks. Of those under one block the heaviest goes last, and takes what variables are now for its own; each other one has a clone.
func (m *maker) down() {
	now := naming{}
	for _, v := range m.g.Params {
		now[v] = m.fresh(m.g.Vars[v])
	}
	for waiting := []visit{{block: 0, now: now}}; len(waiting) > 0; {
		last := len(waiting) - 1
		at := waiting[last]
		waiting = waiting[:last]
		if at.shared {
			at.now = m.cloned(at.now, at.block)
		}
		m.rename(at.block, at.now)
		for i, block := range m.heaviestFirst(at.block) {
			waiting = append(waiting, visit{block: block, now: at.now, shared: i > 0})
		}
	}
}

// heaviestFirst is the blocks under one.
func (m *maker) heaviestFirst(block int) []int {
	under := m.under[block]
	for i, b := range under {
		if m.heft[b] > m.heft[under[0]] {
			under[0], under[i] = b, under[0]
		}
	}
	return under
}

// cloned is what variables are now, for a block and those that it stands over: all, or where these are more than it asks there, those that it asks. So no row or comb of blocks clones all variables again and again.
func (m *maker) cloned(now naming, top int) naming {
	if len(now) <= m.heft[top] {
		return maps.Clone(now)
	}
	some := naming{}
	for _, block := range m.row[m.place[top]:m.past[top]] {
		m.asked(block, func(v int) {
			if name, ok := now[v]; ok {
				some[v] = name
			}
		})
	}
	return some
}

// asked calls ask with each variable that a block asks, or that a phi next to it asks at its end.
func (m *maker) asked(block int, ask func(v int)) {
	b := m.g.Blocks[block]
	for _, x := range b.Ins {
		for _, v := range x.Args {
			ask(v)
		}
	}
	if shape.Asks(b.Term) {
		ask(b.Term.Arg)
	}
	for _, to := range m.next[block] {
		for _, v := range m.phis[to] {
			ask(v)
		}
	}
}

// rename gives a block's settings variables of their own, and its uses those that they ask now.
func (m *maker) rename(block int, now naming) {
	for i, v := range m.phis[block] {
		m.heads[block][i].Dst = m.set(now, v)
	}
	b := &m.g.Blocks[block]
	for i := range b.Ins {
		x := &b.Ins[i]
		for j, v := range x.Args {
			x.Args[j] = m.name(now, v)
		}
		if shape.Sets(*x) {
			x.Dst = m.set(now, x.Dst)
		}
	}
	if shape.Asks(b.Term) {
		b.Term.Arg = m.name(now, b.Term.Arg)
	}
	for _, to := range m.next[block] {
		place, _ := slices.BinarySearch(m.ahead[to], block)
		for i, v := range m.phis[to] {
			m.heads[to][i].Args[place] = m.name(now, v)
		}
	}
}

// set is a new variable for one that is set.
func (m *maker) set(now naming, v int) int {
	now[v] = m.fresh(m.g.Vars[v])
	return now[v]
}

// name is what a variable is now.
func (m *maker) name(now naming, v int) int {
	if name, ok := now[v]; ok {
		return name
	}
	return m.zero(m.g.Vars[v])
}

// zero is a variable of a type that is 0 from the entry on.
func (m *maker) zero(t api.Type) int {
	name, ok := m.zeros[t]
	if !ok {
		name = m.fresh(t)
		m.zeros[t] = name
		m.first = append(m.first, api.Ins{Kind: api.InsConst, Dst: name})
	}
	return name
}

// fresh is a new variable of a type.
func (m *maker) fresh(t api.Type) int {
	m.vars = append(m.vars, t)
	return len(m.vars) - 1
}

// told is the graph that was made.
func (m *maker) told() api.Graph {
	g := m.g
	g.Vars = m.vars
	for i := range g.Params {
		g.Params[i] = i // Parameters were given their variables ahead of all else.
	}
	for i := range g.Blocks {
		g.Blocks[i].Ins = slices.Concat(m.heads[i], g.Blocks[i].Ins)
	}
	g.Blocks[0].Ins = slices.Concat(m.first, g.Blocks[0].Ins)
	return g
}
