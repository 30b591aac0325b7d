package live_test

import (
	"slices"
	"testing"

	"smithy/api"
	"smithy/graph"
	"smithy/live"
)

// sound is a graph with something of all sorts, which is right by itself: a phi, calls, arrays, all ends.
func sound() api.Graph {
	return api.Graph{Name: "g", Params: row(0, 3), Result: api.I64, Vars: []api.Type{api.I64, api.Bool, api.I64, api.F64, api.U8},
		Arrays: []api.Array{{Type: api.U8, Size: 1}, {Type: api.I64, Size: 256}}, Blocks: []api.Block{
			block(branch(1, 1, 2), op(api.OpLt, 1, 0, 2), call(7, 4, 1, 3)),
			block(jump(3), load(2, 1, 0), cast(3, 2)),
			block(branch(1, 3, 4), store(0, 0, 4), wipe(1), copyOf(2, 0)),
			block(back(2), phi(2, 0, 2), show(3), call(0, 2)),
			block(trap(3), constant(4)),
		}}
}

func TestSoundGraph(t *testing.T) {
	wantWords(t, "something of all sorts", sound())
}

// bent is the sound graph with one thing that is otherwise.
type bent struct {
	what string
	do   func(g *api.Graph)
}

var wrong = []bent{
	{"no block", func(g *api.Graph) { g.Blocks = nil }},
	{"no type of a variable", func(g *api.Graph) { g.Vars[4] = api.NoType }},
	{"a type beyond", func(g *api.Graph) { g.Vars[0] = 6 }},
	{"no result", func(g *api.Graph) { g.Result = api.NoType }},
	{"another result", func(g *api.Graph) { g.Result = api.U8 }},
	{"an array of no type", func(g *api.Graph) { g.Arrays[1].Type = 0 }},
	{"an array of no elements", func(g *api.Graph) { g.Arrays[0].Size = 0 }},
	{"an array too long", func(g *api.Graph) { g.Arrays[1].Size = 257 }},
	{"a parameter twice", func(g *api.Graph) { g.Params[1] = 0 }},
	{"nine parameters", func(g *api.Graph) {
		g.Vars = append(g.Vars, types...)
		g.Params = counted(0, 9)
	}},
	{"a block with no end", func(g *api.Graph) { g.Blocks[4].Term = api.Term{} }},
	{"an end of no kind", func(g *api.Graph) { g.Blocks[4].Term.Kind = 5 }},
	{"a trap with an Arg", func(g *api.Graph) { g.Blocks[4].Term.Arg = 1 }},
	{"a jump with an Arg", func(g *api.Graph) { g.Blocks[1].Term.Arg = 1 }},
	{"a jump with two To", func(g *api.Graph) { g.Blocks[1].Term.To[1] = 2 }},
	{"a return with a To", func(g *api.Graph) { g.Blocks[3].Term.To[0] = 1 }},
	{"a branch with a trap", func(g *api.Graph) { g.Blocks[0].Term.Trap = 1 }},
	{"no trap", func(g *api.Graph) { g.Blocks[4].Term.Trap = 0 }},
	{"a trap beyond", func(g *api.Graph) { g.Blocks[4].Term.Trap = 4 }},
	{"a jump to the entry", func(g *api.Graph) { g.Blocks[1].Term.To[0] = 0 }},
	{"a branch to the entry", func(g *api.Graph) { g.Blocks[2].Term.To[1] = 0 }},
	{"a branch on no truth", func(g *api.Graph) { g.Blocks[0].Term.Arg = 0 }},
	{"a phi with no argument", func(g *api.Graph) { g.Blocks[3].Ins[0].Args = nil }},
	{"a phi with too few arguments", func(g *api.Graph) { g.Blocks[3].Ins[0].Args = row(0) }},
	{"a phi with too many arguments", func(g *api.Graph) { g.Blocks[3].Ins[0].Args = row(0, 2, 0) }},
	{"a phi of another type", func(g *api.Graph) { g.Blocks[3].Ins[0].Args[1] = 1 }},
	{"a phi behind something else", func(g *api.Graph) { g.Blocks[3].Ins[0], g.Blocks[3].Ins[1] = g.Blocks[3].Ins[1], g.Blocks[3].Ins[0] }},
	{"a phi behind a call", func(g *api.Graph) { g.Blocks[3].Ins[0], g.Blocks[3].Ins[2] = g.Blocks[3].Ins[2], g.Blocks[3].Ins[0] }},
	{"two phis of one variable", func(g *api.Graph) { g.Blocks[3].Ins = slices.Insert(g.Blocks[3].Ins, 0, phi(2, 0, 0)) }},
	{"a phi of the entry", func(g *api.Graph) { g.Blocks[0].Ins = slices.Insert(g.Blocks[0].Ins, 0, phi(2)) }},
	{"a phi of the entry, its own argument", func(g *api.Graph) { g.Blocks[0].Ins = slices.Insert(g.Blocks[0].Ins, 0, phi(2, 2)) }},
	{"an instruction of no kind", func(g *api.Graph) { g.Blocks[4].Ins[0].Kind = 0 }},
	{"a kind beyond", func(g *api.Graph) { g.Blocks[4].Ins[0].Kind = 11 }},
	{"a word that is none", func(g *api.Graph) { g.Blocks[4].Ins[0].Bits = 256 }},
	{"a copy of another type", func(g *api.Graph) { g.Blocks[2].Ins[2].Dst = 3 }},
	{"a copy of two", func(g *api.Graph) { g.Blocks[2].Ins[2].Args = row(0, 0) }},
	{"an operation that is none", func(g *api.Graph) { g.Blocks[0].Ins[0].Op = 19 }},
	{"an operation of one", func(g *api.Graph) { g.Blocks[0].Ins[0].Args = row(0) }},
	{"a cast of a truth", func(g *api.Graph) { g.Blocks[1].Ins[1].Args[0] = 1 }},
	{"an index of another type", func(g *api.Graph) { g.Blocks[1].Ins[0].Args[0] = 4 }},
	{"an element of another type", func(g *api.Graph) { g.Blocks[2].Ins[0].Args[1] = 0 }},
	{"a store that sets", func(g *api.Graph) { g.Blocks[2].Ins[0].Dst = 1 }},
	{"a clear that sets", func(g *api.Graph) { g.Blocks[2].Ins[1].Dst = 1 }},
	{"a clear that asks", func(g *api.Graph) { g.Blocks[2].Ins[1].Args = row(0) }},
	{"a print that sets", func(g *api.Graph) { g.Blocks[3].Ins[1].Dst = 1 }},
	{"a print of two", func(g *api.Graph) { g.Blocks[3].Ins[1].Args = row(3, 3) }},
	{"a print of none", func(g *api.Graph) { g.Blocks[3].Ins[1].Args = nil }},
	{"a call with an operation", func(g *api.Graph) { g.Blocks[0].Ins[1].Op = api.OpAdd }},
	{"a call with bits", func(g *api.Graph) { g.Blocks[0].Ins[1].Bits = 1 }},
}

func TestGraphsThatAreNotRight(t *testing.T) {
	wantRefused(t, "nothing at all", api.Graph{})
	for _, w := range wrong {
		g := sound()
		w.do(&g)
		wantRefused(t, w.what, g)
	}
}

// What is no variable, no block, no array may be named nowhere, in blocks that are not reached neither.
func TestNamesOfNothing(t *testing.T) {
	for _, stray := range strays(5) {
		for i := range sound().Params {
			g := sound()
			g.Params[i] = stray
			wantRefused(t, "no variable as a parameter", g)
		}
		for i, b := range sound().Blocks {
			for to := range ends(b.Term) {
				g := sound()
				g.Blocks[i].Term.To[to] = stray
				wantRefused(t, "no block", g)
			}
			g := sound()
			if g.Blocks[i].Term.Arg = stray; b.Term.Kind == api.TermBranch || b.Term.Kind == api.TermReturn {
				wantRefused(t, "no variable at an end", g)
			}
			namesOfNothing(t, i, stray)
		}
	}
	for _, stray := range strays(2) {
		for _, at := range [][2]int{{1, 0}, {2, 0}, {2, 1}} {
			g := sound()
			g.Blocks[at[0]].Ins[at[1]].Ref = stray
			wantRefused(t, "no array", g)
		}
	}
}

func namesOfNothing(t *testing.T, at, stray int) {
	t.Helper()
	for j, x := range sound().Blocks[at].Ins {
		for i := range x.Args {
			g := sound()
			g.Blocks[at].Ins[j].Args[i] = stray
			wantRefused(t, "no variable as an argument", g)
		}
		if sets(x, x.Dst) {
			g := sound()
			g.Blocks[at].Ins[j].Dst = stray
			wantRefused(t, "no variable is set", g)
		}
	}
}

// What a call names need not be there, how many arguments it wants is not asked, nor of which types; but it is named by a number from 0 on.
func TestCalls(t *testing.T) {
	for _, ref := range []int{0, 1, 63, 64, 99, 1 << 40} {
		for _, x := range []api.Ins{call(ref, 0), call(ref, 3, 1, 0, 4), call(ref, 2, 2, 2, 2, 2, 2, 2, 2, 2, 2, 2)} {
			for at := range 5 {
				g := sound()
				g.Blocks[at].Ins = append(g.Blocks[at].Ins, x)
				wantWords(t, "a call", g)
				for _, stray := range []int{-1, -2, -1 << 40} {
					x.Ref = stray
					g.Blocks[at].Ins[len(g.Blocks[at].Ins)-1] = x
					wantRefused(t, "a call of what is below 0", g)
				}
				x.Ref = ref
			}
		}
	}
	wantLive(t, "calls alone", truths(3, block(back(1), call(5, 1, 0), call(6, 0, 2))), rows(row(0, 2)), rows(nil))
}

func TestGreatestGraphs(t *testing.T) {
	const most = 1 << 20
	g := truths(most+1, block(back(most-1)))
	wantRefused(t, "one variable over", g)
	g = truths(most, block(back(most-1)))
	wantLive(t, "as many variables as may be", g, rows(row(most-1)), rows(nil))
	g = truths(1, slices.Repeat([]api.Block{block(jump(most - 1))}, most+1)...)
	if a, b, e := live.Live(g); e != api.ErrShape || len(a) != 0 || len(b) != 0 {
		t.Errorf("one block over: %d, %d lists, %d", len(a), len(b), e)
	}
	g.Blocks = g.Blocks[:most]
	g.Blocks[most-1] = block(back(0))
	a, b, e := live.Live(g)
	all := func(l []int) bool { return slices.Equal(l, row(0)) }
	if e != api.OK || len(a) != most || len(b) != most || !all(a[0]) || !all(a[most-1]) || !all(b[most-2]) || len(b[most-1]) > 0 {
		t.Errorf("as many blocks as may be: %d, %d lists, %d", len(a), len(b), e)
	}
	g = truths(1, block(back(0)))
	g.Arrays = slices.Repeat([]api.Array{{Type: api.Bool, Size: 1}}, most+1)
	if _, _, e := live.Live(g); e != api.ErrShape {
		t.Errorf("one array over: %d", e)
	}
}

// isAlone is a second way to tell whether a graph is right by itself: each of its calls is given a graph that it fits.
func isAlone(g api.Graph) bool {
	g = copied(g)
	var called []api.Graph
	for _, b := range g.Blocks {
		for i, x := range b.Ins {
			if x.Kind != api.InsCall {
				continue
			}
			if x.Ref < 0 || slices.ContainsFunc(append(x.Args, x.Dst), func(v int) bool { return v < 0 || v >= len(g.Vars) }) {
				return false
			}
			f := api.Graph{Result: g.Vars[x.Dst], Params: counted(0, len(x.Args))}
			for _, v := range x.Args {
				f.Vars = append(f.Vars, g.Vars[v])
			}
			called = append(called, f)
			b.Ins[i].Ref = len(called)
		}
	}
	e, at := graph.Check(append([]api.Graph{g}, called...))
	return e == api.OK || e == api.ErrShape && at > 0
}

func TestBentGraphs(t *testing.T) {
	m := maker{odds: firstOdd}
	right, refused := 0, 0
	for range 6000 {
		for _, g := range m.program() {
			for range m.below(3) {
				m.bend(&g)
			}
			if isAlone(g) {
				right++
				wantWords(t, "a bent graph", g)
			} else {
				refused++
				wantRefused(t, "a bent graph", g)
			}
		}
		if t.Failed() {
			return
		}
	}
	if right < 4000 || refused < 3000 {
		t.Errorf("%d were right, %d refused", right, refused)
	}
}

// near is a number that is often a place in a list of that length, and sometimes beyond.
func (m *maker) near(length int) int {
	if m.often(5) {
		return pick(&m.odds, strays(length)...)
	}
	return m.below(length+2) - 1
}

// bend changes one thing of a graph, which is right by itself or is not behind that.
func (m *maker) bend(g *api.Graph) {
	switch m.below(12) {
	case 0:
		g.Result = api.Type(m.below(7))
	case 1:
		g.Vars[m.below(len(g.Vars))] = api.Type(m.below(7))
	case 2:
		g.Params = append(g.Params, m.near(len(g.Vars)))
	case 3:
		g.Arrays = append(g.Arrays, api.Array{Type: api.Type(m.below(7)), Size: m.near(257)})
	case 4:
		g.Blocks = g.Blocks[:m.below(len(g.Blocks)+1)]
	case 5, 6:
		m.bendEnd(g)
	default:
		m.bendIns(g)
	}
}

func (m *maker) bendEnd(g *api.Graph) {
	if len(g.Blocks) == 0 {
		return
	}
	e := &g.Blocks[m.below(len(g.Blocks))].Term
	switch m.below(5) {
	case 0:
		e.Kind = api.TermKind(m.below(6))
	case 1:
		e.Arg = m.near(len(g.Vars))
	case 2:
		e.To[0] = m.near(len(g.Blocks))
	case 3:
		e.To[1] = m.near(len(g.Blocks))
	case 4:
		e.Trap = api.Trap(m.below(5))
	}
}

func (m *maker) bendIns(g *api.Graph) {
	for _, i := range m.shuffled(len(g.Blocks)) {
		if ins := g.Blocks[i].Ins; len(ins) > 0 {
			m.bendOne(g, &ins[m.below(len(ins))])
			return
		}
	}
}

func (m *maker) bendOne(g *api.Graph, x *api.Ins) {
	switch m.below(8) {
	case 0:
		x.Kind = api.InsKind(m.below(12))
	case 1:
		x.Op = api.Op(m.below(20))
	case 2:
		x.Dst = m.near(len(g.Vars))
	case 3:
		x.Bits = m.number() >> m.below(64)
	case 4:
		x.Ref = m.near(max(len(g.Arrays), 3))
	case 5:
		x.Args = append(x.Args, m.near(len(g.Vars)))
	case 6:
		x.Args = x.Args[:m.below(len(x.Args)+1)]
	case 7:
		if len(x.Args) > 0 {
			x.Args[m.below(len(x.Args))] = m.near(len(g.Vars))
		}
	}
}
