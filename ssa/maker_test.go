package ssa_test

import (
	"slices"

	"smithy/api"
	"smithy/scalar"
)

// maker makes programs without a pattern, the same ones each time.
type maker struct{ odds }

// program is a right one, and the place of a graph without phis.
func (m *maker) program() ([]api.Graph, int) {
	p := make([]api.Graph, 1+m.below(4))
	for i := range p {
		p[i] = m.head()
	}
	f := m.below(len(p))
	for i := range p {
		m.fill(p, &p[i], i != f)
	}
	return p, f
}

// head is a graph that has no block yet.
func (m *maker) head() api.Graph {
	g := api.Graph{Name: pick(&m.odds, "", "f", "main"), Vars: slices.Clone(types)}
	for range m.below(6) {
		g.Vars = append(g.Vars, pick(&m.odds, types...))
	}
	for i, j := range m.shuffled(len(g.Vars)) {
		if i < 4 && m.often(60) {
			g.Params = append(g.Params, j)
		}
	}
	for range m.below(4) {
		g.Arrays = append(g.Arrays, api.Array{Type: pick(&m.odds, types...), Size: pick(&m.odds, 1, 2, 3, 5, 256)})
	}
	g.Result = pick(&m.odds, types...)
	return g
}

// of is a variable of a type.
func (m *maker) of(g api.Graph, t api.Type) int {
	for {
		if v := m.below(len(g.Vars)); g.Vars[v] == t {
			return v
		}
	}
}

func (m *maker) fill(p []api.Graph, g *api.Graph, phis bool) {
	g.Blocks = make([]api.Block, 2+m.below(9))
	for i := range g.Blocks {
		g.Blocks[i].Term = m.end(*g, i)
	}
	for i := range g.Blocks {
		if i > 0 && phis && m.often(50) {
			g.Blocks[i].Ins = m.phis(*g, len(blocksAhead(*g, i)))
		}
		for range m.below(5) {
			g.Blocks[i].Ins = append(g.Blocks[i].Ins, m.ins(p, *g))
		}
	}
}

func (m *maker) end(g api.Graph, at int) api.Term {
	n := len(g.Blocks) - 1
	switch what := m.below(20); {
	case what < 7:
		return jump(1 + m.below(n))
	case what < 15 || at == 0:
		return branch(m.of(g, api.Bool), 1+m.below(n), 1+m.below(n))
	case what < 19:
		return back(m.of(g, g.Result))
	}
	return trap(api.Trap(1 + m.below(3)))
}

func (m *maker) phis(g api.Graph, ahead int) []api.Ins {
	var l []api.Ins
	for _, dst := range m.shuffled(len(g.Vars))[:m.below(min(5, len(g.Vars)))] {
		var args []int
		for range ahead {
			args = append(args, m.of(g, g.Vars[dst]))
		}
		l = append(l, phi(dst, args...))
	}
	return l
}

// ins is an instruction that may stand, and is no phi.
func (m *maker) ins(p []api.Graph, g api.Graph) api.Ins {
	t := pick(&m.odds, types...)
	k := api.InsKind(2 + m.below(9))
	if len(g.Arrays) == 0 && (k == api.InsLoad || k == api.InsStore || k == api.InsClear) {
		k = api.InsPrint
	}
	array := 0
	if len(g.Arrays) > 0 {
		array = m.below(len(g.Arrays))
	}
	switch k {
	case api.InsConst:
		return api.Ins{Kind: k, Dst: m.of(g, t), Bits: m.word(t)}
	case api.InsCopy:
		return copyOf(m.of(g, t), m.of(g, t))
	case api.InsOp:
		return m.op(g)
	case api.InsCast:
		number := types[1:]
		return cast(m.of(g, pick(&m.odds, number...)), m.of(g, pick(&m.odds, number...)))
	case api.InsLoad:
		return load(m.of(g, g.Arrays[array].Type), array, m.of(g, api.I64))
	case api.InsStore:
		return store(array, m.of(g, api.I64), m.of(g, g.Arrays[array].Type))
	case api.InsClear:
		return wipe(array)
	case api.InsCall:
		return m.call(p, g)
	}
	return show(m.of(g, t))
}

// word is one of a type; of I64 mostly one that may be an index.
func (m *maker) word(t api.Type) uint64 {
	if t == api.I64 && m.often(70) {
		return uint64(m.below(7) - 1)
	}
	return scalar.Cut(t, m.number())
}

func (m *maker) op(g api.Graph) api.Ins {
	for {
		o, t := api.Op(1+m.below(18)), pick(&m.odds, types...)
		result, ok := scalar.Of(o, t)
		if !ok {
			continue
		}
		x := op(o, m.of(g, result), m.of(g, t))
		if o <= api.OpGe {
			x.Args = append(x.Args, m.of(g, t))
		}
		return x
	}
}

func (m *maker) call(p []api.Graph, g api.Graph) api.Ins {
	ref := m.below(len(p))
	x := call(ref, m.of(g, p[ref].Result))
	for _, v := range p[ref].Params {
		x.Args = append(x.Args, m.of(g, p[ref].Vars[v]))
	}
	return x
}

// truths is a graph without phis of that many blocks and variables, all of the type Bool, the first ones its parameters, in which about so many of a hundred places for an instruction have one: few leave much alive.
func (m *maker) truths(blocks, vars, full int) api.Graph {
	g := truths(m.below(min(vars, 3)+1), vars, make([]api.Block, blocks)...)
	near := m.often(50)
	for i := range g.Blocks {
		g.Blocks[i].Term = m.truthEnd(i, blocks, vars, near)
		for range 4 {
			if m.often(full) {
				g.Blocks[i].Ins = append(g.Blocks[i].Ins, m.truthIns(vars, len(g.Params)))
			}
		}
	}
	return g
}

// truthEnd is an end of the block at a place; if near is true it leads mostly to blocks close by.
func (m *maker) truthEnd(at, blocks, vars int, near bool) api.Term {
	if blocks == 1 {
		return pick(&m.odds, back(m.below(vars)), trap(2))
	}
	to := func() int {
		if near && m.often(95) {
			return min(max(at+m.below(8)-3, 1), blocks-1)
		}
		return 1 + m.below(blocks-1)
	}
	switch what := m.below(20); {
	case what < 8:
		return jump(to())
	case what < 17 || at == 0:
		return branch(m.below(vars), to(), to())
	case what < 19:
		return back(m.below(vars))
	}
	return trap(api.Trap(1 + m.below(3)))
}

// truthIns is an instruction of a graph that may call itself, with so many arguments.
func (m *maker) truthIns(vars, params int) api.Ins {
	v := func() int { return m.below(vars) }
	switch m.below(8) {
	case 0:
		return number(v(), uint64(m.below(2)))
	case 1:
		return copyOf(v(), v())
	case 2:
		return op(pick(&m.odds, api.OpEq, api.OpNe), v(), v(), v())
	case 3, 4:
		return not(v(), v())
	case 5, 6:
		return show(v())
	}
	x := call(0, v())
	for range params {
		x.Args = append(x.Args, v())
	}
	return x
}
