package tidy_test

import (
	"math"
	"slices"

	"smithy/api"
	"smithy/dom"
	"smithy/graph"
	"smithy/scalar"
	"smithy/ssa"
)

// odds are numbers without a pattern, the same ones each time.
type odds uint64

const firstOdd odds = 0x9e3779b97f4a7c15

func (o *odds) number() uint64 {
	w := uint64(*o)
	w ^= w << 13
	w ^= w >> 7
	w ^= w << 17
	*o = odds(w)
	return w * 0x2545f4914f6cdd1d
}

func (o *odds) below(n int) int { return int(o.number() >> 33 % uint64(n)) }

// often tells true about so many times in a hundred.
func (o *odds) often(percent int) bool { return o.below(100) < percent }

func pick[T any](o *odds, l ...T) T { return l[o.below(len(l))] }

func (o *odds) shuffled(n int) []int {
	l := make([]int, n)
	for i := range l {
		j := o.below(i + 1)
		l[i], l[j] = l[j], i
	}
	return l
}

const (
	nan         = 0x7ff8000000000000
	minusNought = 1 << 63
)

func float(x float64) uint64 { return math.Float64bits(x) }

func whole(n int64) uint64 { return uint64(n) }

// wordsOf is words of a type of which operations make something out of the common.
func wordsOf(t api.Type) []uint64 {
	switch t {
	case api.Bool:
		return []uint64{0, 1}
	case api.U8:
		return []uint64{0, 1, 2, 7, 9, 127, 128, 200, 255}
	case api.I32:
		return []uint64{0, 1, 2, 31, 33, 65536, math.MaxInt32, whole(-1), whole(-2), whole(math.MinInt32)}
	case api.I64:
		return []uint64{0, 1, 2, 6, 63, 65, 1<<53 + 1, math.MaxInt64, whole(-1), whole(-7), whole(math.MinInt64)}
	}
	return []uint64{0, minusNought, float(1), float(-0.9), float(255.9), float(256), float(1 << 31), float(-1 << 63), float(1 << 63), float(math.Inf(1)), float(math.Inf(-1)), nan, float(math.SmallestNonzeroFloat64), float(math.MaxFloat64)}
}

// maker makes programs without a pattern, the same ones each time.
type maker struct{ odds }

// program is a right one, and the place of a graph of it that is set once.
func (m *maker) program() ([]api.Graph, int) {
	p := make([]api.Graph, 1+m.below(3))
	for i := range p {
		p[i] = m.head()
	}
	f := m.below(len(p))
	for i := range p {
		m.fill(p, &p[i])
	}
	if m.often(40) {
		p[f], _ = ssa.Build(p, f)
	} else {
		p[f] = m.direct(p, f)
	}
	if m.often(60) {
		p[f] = m.blown(p[f], 1+m.below(9))
	}
	if m.often(50) {
		p[f] = m.renumbered(p[f])
	}
	return p, f
}

// head is a graph that has no block yet.
func (m *maker) head() api.Graph {
	g := api.Graph{Name: pick(&m.odds, "", "f", "main"), Vars: slices.Clone(types)}
	for range m.below(6) {
		g.Vars = append(g.Vars, pick(&m.odds, types...))
	}
	for i, j := range m.shuffled(len(g.Vars)) {
		if i < 4 && m.often(25) {
			g.Params = append(g.Params, j)
		}
	}
	for range m.below(3) {
		g.Arrays = append(g.Arrays, api.Array{Type: pick(&m.odds, types...), Size: pick(&m.odds, 1, 2, 3, 5, 256)})
	}
	g.Result = pick(&m.odds, types...)
	return g
}

// of is a variable of a type.
func (m *maker) of(g api.Graph, t api.Type) int {
	for {
		if v := m.below(len(g.Vars)); g.Vars[v] == t {
			return v
		}
	}
}

// fill makes blocks without phis, many of them without anything.
func (m *maker) fill(p []api.Graph, g *api.Graph) {
	g.Blocks = make([]api.Block, 2+m.below(14))
	for i := range g.Blocks {
		end := m.end(i, len(g.Blocks))
		switch end.Kind {
		case api.TermBranch:
			end.Arg = m.of(*g, api.Bool)
		case api.TermReturn:
			end.Arg = m.of(*g, g.Result)
		}
		g.Blocks[i].Term = end
		for range m.length() {
			ask := func(t api.Type) int { return m.of(*g, t) }
			g.Blocks[i].Ins = append(g.Blocks[i].Ins, m.ins(p, *g, ask, ask))
		}
	}
}

// length is how many instructions come into a block: often none.
func (m *maker) length() int { return max(m.below(7)-3, 0) }

// end is one of the block at a place that asks nothing yet. Some blocks are come to more often than others.
func (m *maker) end(at, blocks int) api.Term {
	if blocks == 1 {
		return pick(&m.odds, back(0), trap(1))
	}
	to := func() int {
		if m.often(30) {
			return 1 + m.below(min(2, blocks-1))
		}
		return 1 + m.below(blocks-1)
	}
	switch what := m.below(40); {
	case what < 18:
		return jump(to())
	case what < 36 || at == 0:
		return branch(0, to(), to())
	case what < 39:
		return back(0)
	}
	return trap(api.Trap(1 + m.below(3)))
}

// ins is an instruction that may stand, and is no phi; it asks and sets variables of types that these tell.
func (m *maker) ins(p []api.Graph, g api.Graph, ask, set func(t api.Type) int) api.Ins {
	t := pick(&m.odds, types...)
	k := pick(&m.odds, api.InsConst, api.InsConst, api.InsConst, api.InsCopy, api.InsOp, api.InsOp, api.InsOp, api.InsOp, api.InsCast, api.InsLoad, api.InsStore, api.InsClear, api.InsCall, api.InsPrint)
	if len(g.Arrays) == 0 && (k == api.InsLoad || k == api.InsStore || k == api.InsClear) {
		k = api.InsOp
	}
	array := 0
	if len(g.Arrays) > 0 {
		array = m.below(len(g.Arrays))
	}
	switch k {
	case api.InsConst:
		return number(set(t), pick(&m.odds, wordsOf(t)...))
	case api.InsCopy:
		arg := ask(t)
		return copyOf(set(t), arg)
	case api.InsOp:
		return m.op(ask, set)
	case api.InsCast:
		arg := ask(pick(&m.odds, types[1:]...))
		return cast(set(pick(&m.odds, types[1:]...)), arg)
	case api.InsLoad:
		index := ask(api.I64)
		return load(set(g.Arrays[array].Type), array, index)
	case api.InsStore:
		return store(array, ask(api.I64), ask(g.Arrays[array].Type))
	case api.InsClear:
		return wipe(array)
	case api.InsCall:
		return m.call(p, ask, set)
	}
	return show(ask(t))
}

func (m *maker) op(ask, set func(t api.Type) int) api.Ins {
	for {
		o, t := api.Op(1+m.below(18)), pick(&m.odds, types...)
		if m.often(40) {
			t = api.Bool
		}
		result, ok := scalar.Of(o, t)
		if !ok {
			continue
		}
		args := row(ask(t))
		if o <= api.OpGe {
			args = append(args, ask(t))
		}
		return op(o, set(result), args...)
	}
}

func (m *maker) call(p []api.Graph, ask, set func(t api.Type) int) api.Ins {
	ref := m.below(len(p))
	var args []int
	for _, v := range p[ref].Params {
		args = append(args, ask(p[ref].Vars[v]))
	}
	return call(ref, set(p[ref].Result), args...)
}

// direct is a graph with the face of the one at f, which is set once from the start on: it has phis that nobody would build.
func (m *maker) direct(p []api.Graph, f int) api.Graph {
	was := p[f]
	g := api.Graph{Name: was.Name, Result: was.Result, Arrays: slices.Clone(was.Arrays), Params: counted(0, len(was.Params))}
	for _, v := range was.Params {
		g.Vars = append(g.Vars, was.Vars[v])
	}
	n := 1 + m.below(18)
	for i := range n {
		g.Blocks = append(g.Blocks, api.Block{Term: m.end(i, n)})
	}
	w := &grower{maker: m, p: p, g: graph.Trim(g)}
	w.grow()
	return w.g
}

// grower makes a graph that is set once, all of whose blocks are reached and stand behind those over them.
type grower struct {
	*maker
	p    []api.Graph
	g    api.Graph
	seen [][]int // the variables that are set at the end of each block
}

func (w *grower) grow() {
	next := make([][]int, len(w.g.Blocks))
	for i, b := range w.g.Blocks {
		next[i] = graph.Next(b)
	}
	nearest, _ := dom.Tree(next)
	w.seen = make([][]int, len(w.g.Blocks))
	for i := range w.g.Blocks {
		if i == 0 {
			w.begin()
		} else {
			w.seen[i] = slices.Clone(w.seen[nearest[i]])
			w.phis(i)
		}
		w.fillBlock(i)
	}
	for i := range w.g.Blocks {
		ahead := blocksAhead(w.g, i)
		for j := 0; j < len(w.g.Blocks[i].Ins) && isPhi(w.g.Blocks[i].Ins[j]); j++ {
			t := w.g.Vars[w.g.Blocks[i].Ins[j].Dst]
			for _, from := range ahead {
				w.g.Blocks[i].Ins[j].Args = append(w.g.Blocks[i].Ins[j].Args, w.find(from, t))
			}
		}
	}
}

// begin sets one of each type, so that none is missed further down.
func (w *grower) begin() {
	w.seen[0] = slices.Clone(w.g.Params)
	for _, t := range types {
		if w.often(60) || !slices.ContainsFunc(w.seen[0], func(v int) bool { return w.g.Vars[v] == t }) {
			w.put(0, number(w.new(0, t), pick(&w.odds, wordsOf(t)...)))
		}
	}
}

func (w *grower) phis(i int) {
	for range max(w.below(6)-2, 0) {
		w.put(i, phi(w.new(i, pick(&w.odds, types...))))
	}
}

func (w *grower) put(i int, x api.Ins) {
	w.g.Blocks[i].Ins = append(w.g.Blocks[i].Ins, x)
}

func (w *grower) fillBlock(i int) {
	ask := func(t api.Type) int { return w.find(i, t) }
	set := func(t api.Type) int { return w.new(i, t) }
	for range w.length() {
		x := w.ins(w.p, w.g, ask, set)
		w.put(i, x)
	}
	switch end := &w.g.Blocks[i].Term; end.Kind {
	case api.TermBranch:
		end.Arg = ask(api.Bool)
	case api.TermReturn:
		end.Arg = ask(w.g.Result)
	}
}

// new is a variable of a type that the instruction will set which comes next into a block.
func (w *grower) new(i int, t api.Type) int {
	v := len(w.g.Vars)
	w.g.Vars = append(w.g.Vars, t)
	w.seen[i] = append(w.seen[i], v)
	return v
}

// find is a variable of a type that is set at the end of a block, often one of the last ones.
func (w *grower) find(i int, t api.Type) int {
	var l []int
	for _, v := range w.seen[i] {
		if w.g.Vars[v] == t {
			l = append(l, v)
		}
	}
	if w.often(50) {
		l = l[max(len(l)-3, 0):]
	}
	return pick(&w.odds, l...)
}

// renumbered is a graph whose blocks, but for the entry, and whose variables have other numbers.
func (m *maker) renumbered(g api.Graph) api.Graph {
	return renamed(g, m.shuffledBlocks(len(g.Blocks)), m.shuffled(len(g.Vars)))
}

// shuffledBlocks is other numbers for so many blocks; the entry keeps its own.
func (m *maker) shuffledBlocks(n int) []int {
	l := row(0)
	for _, b := range m.shuffled(n - 1) {
		l = append(l, b+1)
	}
	return l
}

// renamed is a graph in which the block i has become blocks[i], the variable v vars[v].
func renamed(g api.Graph, blocks, vars []int) api.Graph {
	h := copied(g)
	for i, v := range g.Params {
		h.Params[i] = vars[v]
	}
	for v, t := range g.Vars {
		h.Vars[vars[v]] = t
	}
	ahead := graph.Ahead(g)
	for i, b := range copied(g).Blocks {
		order := slices.Clone(ahead[i])
		slices.SortFunc(order, func(a, b int) int { return blocks[a] - blocks[b] })
		for j, x := range b.Ins {
			for k, v := range x.Args {
				x.Args[k] = vars[v]
			}
			if x.Kind == api.InsPhi {
				b.Ins[j].Args = byBlocks(x.Args, ahead[i], order)
			}
			if sets(x) {
				b.Ins[j].Dst = vars[x.Dst]
			}
		}
		if b.Term.Kind == api.TermBranch || b.Term.Kind == api.TermReturn {
			b.Term.Arg = vars[b.Term.Arg]
		}
		for j := range ends(b.Term) {
			b.Term.To[j] = blocks[b.Term.To[j]]
		}
		h.Blocks[blocks[i]] = b
	}
	return h
}

// byBlocks is arguments for blocks ahead in another order.
func byBlocks(args, ahead, order []int) []int {
	var l []int
	for _, from := range order {
		at, _ := slices.BinarySearch(ahead, from)
		l = append(l, args[at])
	}
	return l
}
