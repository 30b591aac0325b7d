package graph_test

import (
	"slices"

	"smithy/api"
	"smithy/scalar"
)

// maker makes programs without a pattern, the same ones each time.
type maker struct{ odds }

// program is a right one.
func (m *maker) program() []api.Graph {
	p := make([]api.Graph, 1+m.below(4))
	for i := range p {
		p[i] = m.head()
	}
	for i := range p {
		m.fill(p, &p[i])
	}
	return p
}

// head is a right graph but for its blocks, of which there is none yet.
func (m *maker) head() api.Graph {
	g := api.Graph{Name: pick(&m.odds, "", "f", "main"), Vars: slices.Clone(types)}
	for range m.below(10) {
		g.Vars = append(g.Vars, pick(&m.odds, types...))
	}
	for i, j := range m.shuffled(len(g.Vars)) {
		if i < 4 && m.often(60) {
			g.Params = append(g.Params, j)
		}
	}
	for range m.below(4) {
		g.Arrays = append(g.Arrays, api.Array{Type: pick(&m.odds, types...), Size: 1 + m.below(256)})
	}
	g.Result = pick(&m.odds, types...)
	return g
}

func (m *maker) shuffled(n int) []int {
	l := make([]int, n)
	for i := range l {
		j := m.below(i + 1)
		l[i], l[j] = l[j], i
	}
	return l
}

// of is a variable of a type.
func (m *maker) of(g api.Graph, t api.Type) int {
	for {
		if v := m.below(len(g.Vars)); g.Vars[v] == t {
			return v
		}
	}
}

func (m *maker) fill(p []api.Graph, g *api.Graph) {
	g.Blocks = make([]api.Block, 1+m.below(12))
	for i := range g.Blocks {
		g.Blocks[i].Term = m.end(*g)
	}
	for i := range g.Blocks {
		if i > 0 && m.often(50) {
			g.Blocks[i].Ins = m.phis(*g, len(slowAhead(*g, i)))
		}
		for range m.below(5) {
			g.Blocks[i].Ins = append(g.Blocks[i].Ins, m.ins(p, *g))
		}
	}
}

func (m *maker) end(g api.Graph) api.Term {
	n := len(g.Blocks) - 1
	switch what := m.below(10); {
	case n > 0 && what < 4:
		return jump(1 + m.below(n))
	case n > 0 && what < 8:
		return branch(m.of(g, api.Bool), 1+m.below(n), 1+m.below(n))
	case what < 9:
		return back(m.of(g, g.Result))
	}
	return trap(api.Trap(1 + m.below(3)))
}

func (m *maker) phis(g api.Graph, ahead int) []api.Ins {
	var l []api.Ins
	for _, dst := range m.shuffled(len(g.Vars))[:m.below(4)] {
		var args []int
		for range ahead {
			args = append(args, m.of(g, g.Vars[dst]))
		}
		l = append(l, phi(dst, args...))
	}
	return l
}

// ins is an instruction that may stand, and is no phi.
func (m *maker) ins(p []api.Graph, g api.Graph) api.Ins {
	t := pick(&m.odds, types...)
	dst := m.of(g, t)
	k := api.InsKind(2 + m.below(9))
	if len(g.Arrays) == 0 && (k == api.InsLoad || k == api.InsStore || k == api.InsClear) {
		k = api.InsPrint
	}
	switch k {
	case api.InsConst:
		return api.Ins{Kind: k, Dst: dst, Bits: scalar.Cut(t, m.number())}
	case api.InsCopy:
		return api.Ins{Kind: k, Dst: dst, Args: []int{m.of(g, t)}}
	case api.InsOp:
		return m.op(g)
	case api.InsCast:
		number := types[1:]
		return api.Ins{Kind: k, Dst: m.of(g, pick(&m.odds, number...)), Args: []int{m.of(g, pick(&m.odds, number...))}}
	case api.InsCall:
		return m.call(p, g)
	case api.InsPrint:
		return show(dst)
	}
	x := api.Ins{Kind: k, Ref: m.below(len(g.Arrays))}
	if k != api.InsClear {
		x.Args = []int{m.of(g, api.I64)}
	}
	element := m.of(g, g.Arrays[x.Ref].Type)
	if k == api.InsLoad {
		x.Dst = element
	} else if k == api.InsStore {
		x.Args = append(x.Args, element)
	}
	return x
}

func (m *maker) op(g api.Graph) api.Ins {
	for {
		o, t := api.Op(1+m.below(18)), pick(&m.odds, types...)
		told, ok := scalar.Of(o, t)
		if !ok {
			continue
		}
		x := op(o, m.of(g, told), m.of(g, t))
		if o <= api.OpGe {
			x.Args = append(x.Args, m.of(g, t))
		}
		return x
	}
}

func (m *maker) call(p []api.Graph, g api.Graph) api.Ins {
	ref := m.below(len(p))
	x := call(ref, m.of(g, p[ref].Result))
	for _, v := range p[ref].Params {
		x.Args = append(x.Args, m.of(g, p[ref].Vars[v]))
	}
	return x
}

// near is a number that is often a place in a list of that length, and sometimes beyond.
func (m *maker) near(length int) int {
	if m.often(5) {
		return pick(&m.odds, strays(length)...)
	}
	return m.below(length+2) - 1
}

// bend changes one thing of a program, which is right or is not behind that.
func (m *maker) bend(p []api.Graph) {
	g := &p[m.below(len(p))]
	switch m.below(12) {
	case 0:
		g.Result = api.Type(m.below(7))
	case 1:
		if i := m.below(len(g.Vars) + 1); i < len(g.Vars) {
			g.Vars[i] = api.Type(m.below(7))
		}
	case 2:
		if len(g.Params) > 0 {
			g.Params[m.below(len(g.Params))] = m.near(len(g.Vars))
		} else {
			g.Params = append(g.Params, m.near(len(g.Vars)))
		}
	case 3:
		if len(g.Arrays) > 0 {
			g.Arrays[m.below(len(g.Arrays))] = api.Array{Type: api.Type(m.below(7)), Size: m.near(257)}
		}
	case 4:
		g.Blocks = g.Blocks[:m.below(len(g.Blocks)+1)]
	case 5, 6:
		m.bendEnd(g)
	default:
		m.bendIns(p, g)
	}
}

func (m *maker) bendEnd(g *api.Graph) {
	if len(g.Blocks) == 0 {
		return
	}
	e := &g.Blocks[m.below(len(g.Blocks))].Term
	switch m.below(5) {
	case 0:
		e.Kind = api.TermKind(m.below(6))
	case 1:
		e.Arg = m.near(len(g.Vars))
	case 2:
		e.To[0] = m.near(len(g.Blocks))
	case 3:
		e.To[1] = m.near(len(g.Blocks))
	case 4:
		e.Trap = api.Trap(m.below(5))
	}
}

func (m *maker) bendIns(p []api.Graph, g *api.Graph) {
	for _, i := range m.shuffled(len(g.Blocks)) {
		if ins := g.Blocks[i].Ins; len(ins) > 0 {
			m.bendOne(p, g, &ins[m.below(len(ins))])
			return
		}
	}
}

func (m *maker) bendOne(p []api.Graph, g *api.Graph, x *api.Ins) {
	switch m.below(8) {
	case 0:
		x.Kind = api.InsKind(m.below(12))
	case 1:
		x.Op = api.Op(m.below(20))
	case 2:
		x.Dst = m.near(len(g.Vars))
	case 3:
		x.Bits = m.number() >> m.below(64)
	case 4:
		x.Ref = m.near(max(len(g.Arrays), len(p)))
	case 5:
		x.Args = append(x.Args, m.near(len(g.Vars)))
	case 6:
		x.Args = x.Args[:m.below(len(x.Args)+1)]
	case 7:
		if len(x.Args) > 0 {
			x.Args[m.below(len(x.Args))] = m.near(len(g.Vars))
		}
	}
}

// junk is any graph: nothing of it needs to be right.
func (m *maker) junk() api.Graph {
	g := api.Graph{Name: "junk", Result: api.Type(m.below(7))}
	for range m.below(6) {
		g.Vars = append(g.Vars, api.Type(m.below(7)))
		g.Params = append(g.Params, m.near(6))
		g.Arrays = append(g.Arrays, api.Array{Type: api.Type(m.below(7)), Size: m.near(257)})
	}
	n := m.below(14)
	for range n {
		x := api.Block{Term: api.Term{Kind: api.TermKind(pick(&m.odds, 1, 1, 2, 2, 2, 2, 3, 4, 0, 5)), Arg: m.near(6), To: [2]int{m.near(n), m.near(n)}, Trap: api.Trap(m.below(5))}}
		for range m.below(5) {
			x.Ins = append(x.Ins, m.junkIns())
		}
		g.Blocks = append(g.Blocks, x)
	}
	return g
}

func (m *maker) junkIns() api.Ins {
	x := api.Ins{Kind: api.InsKind(m.below(12)), Op: api.Op(m.below(20)), Dst: m.near(6), Bits: m.number() >> m.below(64), Ref: m.near(6)}
	if m.often(50) {
		x.Kind = api.InsPhi
	}
	for range m.below(6) {
		x.Args = append(x.Args, m.near(6))
	}
	return x
}
