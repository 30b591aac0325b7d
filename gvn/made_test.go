package gvn_test

import (
	"slices"
	"testing"

	"smithy/api"
	"smithy/graph"
	"smithy/gvn"
	"smithy/ssa"
)

// tally is how much has changed.
type tally struct {
	clean, gone, copies, phis, args int // clean ahead already, instructions and copies that went, phis, arguments of phis that ask another one now
	ends                            map[api.End]int
}

func (c *tally) add(was, is api.Graph) {
	if isClean(was) {
		c.clean++
	}
	c.copies += countIns(was, api.InsCopy)
	c.gone += graph.Count(was) - graph.Count(is) - countIns(was, api.InsCopy)
	c.phis += countIns(is, api.InsPhi)
	for i, b := range was.Blocks {
		for j, x := range b.Ins {
			if x.Kind == api.InsPhi && !slices.Equal(x.Args, is.Blocks[i].Ins[j].Args) {
				c.args++
			}
		}
	}
}

// P16.2 of programs without a pattern, their runs cut off anywhere.
func TestMadePrograms(t *testing.T) {
	m := maker{odds: firstOdd}
	c := tally{ends: map[api.End]int{}}
	for range 6000 {
		p, f := m.program()
		g := wantKept(t, "a made program", p, f)
		c.add(p[f], g)
		q := with(p, f, g)
		from, words := m.below(len(p)), m.number()
		for steps := range 12 {
			c.ends[wantSameRun(t, "a made program", p, q, from, wordsFor(p[from], words), steps, 1+m.below(5)).End]++
		}
		c.ends[wantSameRun(t, "a made program", p, q, from, wordsFor(p[from], words), 300, 5).End]++
	}
	if c.clean < 500 || c.gone < 5000 || c.copies < 3000 || c.phis < 3000 || c.args < 500 {
		t.Errorf("%+v", c)
	}
	for _, end := range []api.End{api.Told, api.Trapped, api.Steps, api.Deep} {
		if c.ends[end] < 300 {
			t.Errorf("%d ended with %d", c.ends[end], end)
		}
	}
}

// P16.1 of graphs of programs without a pattern, some of them bent, some of them with one instruction fewer or more than Apply tells.
func TestCleanOfMadeGraphs(t *testing.T) {
	m := maker{odds: firstOdd}
	count := map[bool]int{}
	for range 6000 {
		p, f := m.program()
		g := wantApplied(t, "a made program", p, f)
		for range 1 + m.below(3) {
			want := isClean(g)
			count[want]++
			wantIs(t, "a graph that was told, bent", want, g)
			m.bend(&g)
		}
		want := isClean(p[f])
		count[want]++
		wantIs(t, "a made program", want, p[f])
	}
	if count[true] < 3000 || count[false] < 3000 {
		t.Errorf("%v", count)
	}
}

func TestAllSmallGraphs(t *testing.T) {
	entries := []api.Block{block(jump(1), number(2, 1)), block(branch(0, 1, 2), not(2, 1)), block(branch(1, 2, 1), copyOf(2, 0)), block(branch(0, 1, 2), op(api.OpXor, 2, 0, 1)), block(jump(1), op(api.OpXor, 2, 1, 0), show(2))}
	inner := []api.Ins{number(3, 1), number(3, 0), not(3, 0), not(3, 1), copyOf(3, 2), copyOf(3, 1), op(api.OpXor, 3, 0, 1), op(api.OpEq, 3, 2, 1), phi(3, 0), phi(3, 0, 2), phi(3, 2, 3), phi(3, 2, 4), phi(3, 0, 4, 3)}
	endings := []api.Term{jump(1), jump(2), branch(0, 1, 2), branch(3, 2, 1), branch(2, 1, 2), back(3), trap(1)}
	var ones, twos []api.Block
	for _, ins := range inner {
		for _, end := range endings {
			ones = append(ones, block(end, ins))
			twos = append(twos, block(swapped(end), swappedIns(ins), op(api.OpEq, 5, 1, 4)))
		}
	}
	count := map[bool]int{}
	for _, entry := range entries {
		for _, one := range ones {
			for _, two := range twos {
				g := truths(2, 6, entry, one, two)
				want := isClean(g)
				wantIs(t, "a small graph", want, g)
				if ssa.Is(g) {
					count[want]++
					wantKept(t, "a small graph", alone(g), 0)
				}
			}
		}
	}
	if count[true] < 1000 || count[false] < 1000 {
		t.Errorf("%v", count)
	}
}

// swapped is an end, and an instruction, with 4 in 3's place and the other way round.
func swapped(end api.Term) api.Term {
	end.Arg = swappedVars(end.Arg)[0]
	return end
}

func swappedIns(x api.Ins) api.Ins {
	if sets(x) {
		x.Dst = 7 - x.Dst
	}
	x.Args = swappedVars(x.Args...)
	return x
}

func swappedVars(l ...int) []int {
	l = slices.Clone(l)
	for i, v := range l {
		if v >= 3 {
			l[i] = 7 - v
		}
	}
	return l
}

// P16.3: what is told is told again clean, and kept; what was clean stays kept, and as it was.
func TestToldOnceMore(t *testing.T) {
	m := maker{odds: firstOdd}
	for range 3000 {
		p, f := m.program()
		q := with(p, f, wantKept(t, "a made program", p, f))
		r := with(q, f, wantKept(t, "told once more", q, f))
		if !sameGraph(q[f], r[f]) {
			t.Fatalf("%v becomes %v, and once more %v", p[f], q[f], r[f])
		}
		for from := range p {
			for _, seed := range []uint64{0, 1, m.number()} {
				for _, limit := range [][2]int{{0, 1}, {1, 1}, {2, 2}, {5, 1}, {60, 3}, {60, 0}} {
					wantSameRun(t, "told once more", p, r, from, wordsFor(p[from], seed), limit[0], limit[1])
				}
			}
		}
	}
}

func TestWhatIsCleanStaysAsItWas(t *testing.T) {
	m := maker{odds: firstOdd}
	clean := 0
	for range 6000 {
		p, f := m.program()
		if !gvn.Clean(p[f]) {
			continue
		}
		clean++
		if g := wantKept(t, "a clean graph", p, f); !sameGraph(g, p[f]) {
			t.Fatalf("%v becomes %v", p[f], g)
		}
	}
	if clean < 500 {
		t.Errorf("%d were clean", clean)
	}
}

// One graph after the other may be told: what becomes of one hangs on none of the others.
func TestAllGraphsOfAProgram(t *testing.T) {
	m := maker{odds: firstOdd}
	for range 1500 {
		p, _ := m.program()
		for f := range p {
			if g, e := ssa.Build(p, f); e == api.OK {
				p[f] = g
			}
		}
		q := p
		for f := range p {
			g := wantKept(t, "one by one", q, f)
			if h := wantKept(t, "by itself", p, f); !sameGraph(g, h) {
				t.Fatalf("%v becomes %v beside others, %v beside those that are told", p[f], h, g)
			}
			q = with(q, f, g)
		}
		for f := range p {
			for _, seed := range []uint64{0, 1, m.number()} {
				wantSameRun(t, "all of them", p, q, f, wordsFor(p[f], seed), 50, 4)
			}
		}
	}
}

// By other numbers of blocks and variables as many instructions stay.
func TestBlocksRenumberedAndVariablesRenamed(t *testing.T) {
	m := maker{odds: firstOdd}
	for range 2000 {
		p, f := m.program()
		g := wantKept(t, "as it was", p, f)
		q := with(p, f, m.renumbered(p[f]))
		h := wantKept(t, "by other numbers", q, f)
		if graph.Count(g) != graph.Count(h) || countIns(g, api.InsPhi) != countIns(h, api.InsPhi) {
			t.Fatalf("%v becomes %v; as %v it becomes %v", p[f], g, q[f], h)
		}
		wantIs(t, "by other numbers", gvn.Clean(p[f]), q[f])
	}
}

// What is clean is spoilt by one instruction more, anywhere behind another one, that is reckoned alike, or that is a copy.
func TestOneInstructionMore(t *testing.T) {
	m := maker{odds: firstOdd}
	spoilt := 0
	for range 3000 {
		p, f := m.program()
		g := wantApplied(t, "a made program", p, f)
		was := copied(g)
		i := m.below(len(g.Blocks))
		x := m.reckonedIn(g)
		if x.Kind == 0 || !slices.Contains(under(g, x.Dst), i) {
			continue
		}
		g.Vars = append(g.Vars, g.Vars[x.Dst])
		if x = m.turned(x); m.often(20) {
			x = copyOf(0, x.Dst)
		}
		x.Dst = len(g.Vars) - 1
		g.Blocks[i].Ins = append(g.Blocks[i].Ins, x)
		want := isClean(g)
		wantIs(t, "one instruction more", want, g)
		if want {
			continue
		}
		spoilt++
		// Nobody asks for it: so all is as it was.
		if h := wantKept(t, "one instruction more", with(p, f, g), f); !sameGraph(withBlocks(was, h.Blocks...), was) {
			t.Fatalf("%v with one instruction more becomes %v", was, h)
		}
	}
	if spoilt < 500 {
		t.Errorf("%d were spoilt", spoilt)
	}
}

// reckonedIn is any of the instructions of a graph that are looked at; none, if it has none.
func (m *maker) reckonedIn(g api.Graph) api.Ins {
	var l []api.Ins
	for _, b := range g.Blocks {
		for _, x := range b.Ins {
			if x.Kind == api.InsConst || x.Kind == api.InsOp || x.Kind == api.InsCast {
				l = append(l, x)
			}
		}
	}
	if len(l) == 0 {
		return api.Ins{}
	}
	return pick(&m.odds, l...)
}

// under is the blocks over which the one stands that sets a variable, itself among them.
func under(g api.Graph, v int) []int {
	at := slices.IndexFunc(g.Blocks, func(b api.Block) bool {
		return slices.ContainsFunc(b.Ins, func(x api.Ins) bool { return sets(x) && x.Dst == v })
	})
	without := reached(g, at)
	return slices.DeleteFunc(counted(0, len(g.Blocks)), func(i int) bool { return without[i] })
}
