package dce_test

import (
	"math"
	"slices"

	"smithy/api"
	"smithy/graph"
	"smithy/scalar"
	"smithy/ssa"
)

// odds are numbers without a pattern, the same ones each time.
type odds uint64

const firstOdd odds = 0x9e3779b97f4a7c15

func (o *odds) number() uint64 {
	w := uint64(*o)
	w ^= w << 13
	w ^= w >> 7
	w ^= w << 17
	*o = odds(w)
	return w * 0x2545f4914f6cdd1d
}

func (o *odds) below(n int) int { return int(o.number() >> 33 % uint64(n)) }

// often tells true about so many times in a hundred.
func (o *odds) often(percent int) bool { return o.below(100) < percent }

func pick[T any](o *odds, l ...T) T { return l[o.below(len(l))] }

func (o *odds) shuffled(n int) []int {
	l := make([]int, n)
	for i := range l {
		j := o.below(i + 1)
		l[i], l[j] = l[j], i
	}
	return l
}

const (
	nan         = 0x7ff8000000000000
	minusNought = 1 << 63
)

func float(x float64) uint64 { return math.Float64bits(x) }

func integer(n int64) uint64 { return uint64(n) }

// wordsOf is words of a type of which operations make something out of the common.
func wordsOf(t api.Type) []uint64 {
	switch t {
	case api.Bool:
		return []uint64{0, 1}
	case api.U8:
		return []uint64{0, 1, 2, 7, 127, 128, 255}
	case api.I32:
		return []uint64{0, 1, 2, 31, math.MaxInt32, integer(-1), integer(math.MinInt32)}
	case api.I64:
		return []uint64{0, 1, 2, 3, 63, math.MaxInt64, integer(-1), integer(-7), integer(math.MinInt64)}
	}
	return []uint64{0, minusNought, float(1), float(-0.9), float(255.9), float(1 << 63), float(math.Inf(1)), float(math.Inf(-1)), nan, float(math.SmallestNonzeroFloat64)}
}

// maker makes programs without a pattern, the same ones each time.
type maker struct{ odds }

// program is a right one. Its graphs have variables that are set in many places, phis, and blocks that are not reached; in some of them hardly anything is asked for.
func (m *maker) program() []api.Graph {
	p := make([]api.Graph, 1+m.below(3))
	for i := range p {
		p[i] = m.head()
	}
	for i := range p {
		m.fill(p, &p[i], true)
	}
	return p
}

// head is a graph that has no block yet.
func (m *maker) head() api.Graph {
	g := api.Graph{Name: pick(&m.odds, "", "f", "main"), Vars: slices.Clone(types)}
	for range m.below(20) {
		g.Vars = append(g.Vars, pick(&m.odds, types...))
	}
	for i, j := range m.shuffled(len(g.Vars)) {
		if i < 4 && m.often(40) {
			g.Params = append(g.Params, j)
		}
	}
	for range m.below(4) {
		g.Arrays = append(g.Arrays, api.Array{Type: pick(&m.odds, types...), Size: pick(&m.odds, 1, 2, 3, 5, 256)})
	}
	g.Result = pick(&m.odds, types...)
	return g
}

// of is a variable of a type.
func (m *maker) of(g api.Graph, t api.Type) int {
	for {
		if v := m.below(len(g.Vars)); g.Vars[v] == t {
			return v
		}
	}
}

func (m *maker) fill(p []api.Graph, g *api.Graph, phis bool) {
	g.Blocks = make([]api.Block, 2+m.below(9))
	for i := range g.Blocks {
		g.Blocks[i].Term = m.end(*g, i)
	}
	acts := pick(&m.odds, 5, 20, 50)
	for i := range g.Blocks {
		if phis && i > 0 && m.often(50) {
			g.Blocks[i].Ins = m.phis(*g, len(blocksAhead(*g, i)))
		}
		for range m.below(6) {
			g.Blocks[i].Ins = append(g.Blocks[i].Ins, m.ins(p, *g, m.often(acts)))
		}
	}
}

func (m *maker) end(g api.Graph, at int) api.Term {
	n := len(g.Blocks) - 1
	switch what := m.below(20); {
	case what < 9:
		return jump(1 + m.below(n))
	case what < 15 || at == 0:
		return branch(m.of(g, api.Bool), 1+m.below(n), 1+m.below(n))
	case what < 18:
		return back(m.of(g, g.Result))
	}
	return trap(api.Trap(1 + m.below(3)))
}

func (m *maker) phis(g api.Graph, ahead int) []api.Ins {
	var l []api.Ins
	for _, dst := range m.shuffled(len(g.Vars))[:m.below(min(5, len(g.Vars)))] {
		var args []int
		for range ahead {
			args = append(args, m.of(g, g.Vars[dst]))
		}
		l = append(l, phi(dst, args...))
	}
	return l
}

// ins is an instruction that may stand, and is no phi; one that acts, or one that does nothing but set a variable.
func (m *maker) ins(p []api.Graph, g api.Graph, acts bool) api.Ins {
	t := pick(&m.odds, types...)
	k := pick(&m.odds, api.InsConst, api.InsCopy, api.InsOp, api.InsOp, api.InsCast, api.InsLoad)
	if acts {
		k = pick(&m.odds, api.InsStore, api.InsClear, api.InsCall, api.InsPrint)
	}
	if len(g.Arrays) == 0 {
		switch k {
		case api.InsLoad:
			k = api.InsCopy
		case api.InsStore, api.InsClear:
			k = api.InsPrint
		}
	}
	array := 0
	if len(g.Arrays) > 0 {
		array = m.below(len(g.Arrays))
	}
	switch k {
	case api.InsConst:
		return number(m.of(g, t), pick(&m.odds, wordsOf(t)...))
	case api.InsCopy:
		return copyOf(m.of(g, t), m.of(g, t))
	case api.InsOp:
		return m.op(g)
	case api.InsCast:
		number := types[1:]
		return cast(m.of(g, pick(&m.odds, number...)), m.of(g, pick(&m.odds, number...)))
	case api.InsLoad:
		return load(m.of(g, g.Arrays[array].Type), array, m.of(g, api.I64))
	case api.InsStore:
		return store(array, m.of(g, api.I64), m.of(g, g.Arrays[array].Type))
	case api.InsClear:
		return wipe(array)
	case api.InsCall:
		return m.call(p, g)
	}
	return show(m.of(g, t))
}

func (m *maker) op(g api.Graph) api.Ins {
	for {
		o, t := api.Op(1+m.below(18)), pick(&m.odds, types...)
		result, ok := scalar.Of(o, t)
		if !ok {
			continue
		}
		x := op(o, m.of(g, result), m.of(g, t))
		if o <= api.OpGe {
			x.Args = append(x.Args, m.of(g, t))
		}
		return x
	}
}

func (m *maker) call(p []api.Graph, g api.Graph) api.Ins {
	ref := m.below(len(p))
	x := call(ref, m.of(g, p[ref].Result))
	for _, v := range p[ref].Params {
		x.Args = append(x.Args, m.of(g, p[ref].Vars[v]))
	}
	return x
}

// onceProgram is a right program, and the place of a graph of it that is set once; that has phis and others of which nobody asks.
func (m *maker) onceProgram() ([]api.Graph, int) {
	p := m.program()
	f := m.below(len(p))
	m.fill(p, &p[f], false)
	p[f], _ = ssa.Build(p, f)
	for range 30 {
		if g := m.grown(p, p[f]); ssa.Is(g) {
			p[f] = g
		}
	}
	if m.often(50) {
		p[f] = m.renumbered(p[f])
	}
	return p, f
}

// grown is a graph with one or two more instructions, which set new variables and may ask one another, or the end of a block may ask them; it is not always set once.
func (m *maker) grown(p []api.Graph, g api.Graph) api.Graph {
	g = copied(g)
	for _, t := range types {
		g.Vars = append(g.Vars, t)
	}
	n := 1 + m.below(2)
	for range n {
		i := m.below(len(g.Blocks))
		b := &g.Blocks[i]
		t := pick(&m.odds, types...)
		x, at := m.ins(p, g, false), len(b.Ins)
		if i > 0 && m.often(70) {
			x, at = phi(0), 0
			for range blocksAhead(g, i) {
				x.Args = append(x.Args, m.of(g, t))
			}
		} else {
			t = g.Vars[x.Dst]
		}
		x.Dst = len(g.Vars) - len(types) + slices.Index(types, t)
		b.Ins = slices.Insert(b.Ins, at, x)
	}
	return g
}

// renumbered is a graph whose blocks, but for the entry, and whose variables have other numbers.
func (m *maker) renumbered(g api.Graph) api.Graph {
	return renamed(g, m.shuffledBlocks(len(g.Blocks)), m.shuffled(len(g.Vars)))
}

// shuffledBlocks is other numbers for so many blocks; the entry keeps its own.
func (m *maker) shuffledBlocks(n int) []int {
	l := row(0)
	for _, b := range m.shuffled(n - 1) {
		l = append(l, b+1)
	}
	return l
}

// renamed is a graph in which the block i has become blocks[i], the variable v vars[v].
func renamed(g api.Graph, blocks, vars []int) api.Graph {
	h := copied(g)
	for i, v := range g.Params {
		h.Params[i] = vars[v]
	}
	for v, t := range g.Vars {
		h.Vars[vars[v]] = t
	}
	ahead := graph.Ahead(g)
	for i, b := range copied(g).Blocks {
		order := slices.Clone(ahead[i])
		slices.SortFunc(order, func(a, b int) int { return blocks[a] - blocks[b] })
		for j, x := range b.Ins {
			for k, v := range x.Args {
				x.Args[k] = vars[v]
			}
			if x.Kind == api.InsPhi {
				b.Ins[j].Args = byBlocks(x.Args, ahead[i], order)
			}
			if sets(x) {
				b.Ins[j].Dst = vars[x.Dst]
			}
		}
		if b.Term.Kind == api.TermBranch || b.Term.Kind == api.TermReturn {
			b.Term.Arg = vars[b.Term.Arg]
		}
		for j := range ends(b.Term) {
			b.Term.To[j] = blocks[b.Term.To[j]]
		}
		h.Blocks[blocks[i]] = b
	}
	return h
}

// byBlocks is arguments for blocks ahead in another order.
func byBlocks(args, ahead, order []int) []int {
	var l []int
	for _, from := range order {
		at, _ := slices.BinarySearch(ahead, from)
		l = append(l, args[at])
	}
	return l
}
