package fold_test

import (
	"slices"
	"testing"

	"smithy/api"
	"smithy/graph"
	"smithy/run"
	"smithy/ssa"
)

// tally is how much has changed.
type tally struct {
	blocks, jumps, consts, phis, args int // that have gone, that were branches, that were something else, that stay, that they have lost
	ends                              map[api.End]int
}

func (c *tally) add(was, is api.Graph) {
	c.blocks += len(was.Blocks) - len(is.Blocks)
	c.jumps += countEnds(is, api.TermJump) - countEnds(was, api.TermJump)
	c.consts += countIns(is, api.InsConst) - countIns(was, api.InsConst)
	c.phis += countIns(is, api.InsPhi)
	args := map[int]int{}
	for _, b := range was.Blocks {
		for _, x := range b.Ins {
			if x.Kind == api.InsPhi {
				args[x.Dst] = len(x.Args)
			}
		}
	}
	for _, b := range is.Blocks {
		for _, x := range b.Ins {
			if x.Kind == api.InsPhi {
				c.args += args[x.Dst] - len(x.Args)
			}
		}
	}
}

func countEnds(g api.Graph, kind api.TermKind) int {
	n := 0
	for _, b := range g.Blocks {
		if b.Term.Kind == kind {
			n++
		}
	}
	return n
}

func countIns(g api.Graph, kind api.InsKind) int {
	n := 0
	for _, b := range g.Blocks {
		for _, x := range b.Ins {
			if x.Kind == kind {
				n++
			}
		}
	}
	return n
}

// P15.1 and P15.2 of programs without a pattern, by their least facts.
func TestMadePrograms(t *testing.T) {
	m := maker{odds: firstOdd}
	c := tally{ends: map[api.End]int{}}
	for range 5000 {
		p, f := m.program()
		g := wantFolded(t, "a made program", p, f)
		c.add(p[f], g)
		q := with(p, f, g)
		from, words := m.below(len(p)), m.number()
		for steps := range 12 {
			c.ends[wantKeptRun(t, "a made program", p, q, from, wordsFor(p[from], words), steps, 1+m.below(5)).End]++
		}
		c.ends[wantKeptRun(t, "a made program", p, q, from, wordsFor(p[from], words), 300, 5).End]++
	}
	if c.blocks < 2000 || c.jumps < 300 || c.consts < 2000 || c.phis < 2000 || c.args < 300 {
		t.Errorf("%+v", c)
	}
	for _, end := range []api.End{api.Told, api.Trapped, api.Steps, api.Deep} {
		if c.ends[end] < 300 {
			t.Errorf("%d ended with %d", c.ends[end], end)
		}
	}
}

// P15.1 of programs without a pattern, by facts in between.
func TestMadeProgramsByOtherFacts(t *testing.T) {
	m := maker{odds: firstOdd}
	c := tally{}
	least := 0
	for range 5000 {
		p, f := m.program()
		x := lowest(t, "a made program", p, f)
		y := m.between(p[f], x)
		if sameFacts(x, y) {
			least++
		}
		c.add(p[f], wantKept(t, "a made program", p, f, y))
		wantKept(t, "a made program", p, f, above(p[f], joined(y, m.between(p[f], y))))
	}
	if c.blocks < 1000 || c.jumps < 100 || c.consts < 1000 || c.phis < 2000 || c.args < 200 || least > 2500 {
		t.Errorf("%+v, of the least %d", c, least)
	}
}

// joined is facts that are above both of two.
func joined(x, y api.Facts) api.Facts {
	x = copiedFacts(x)
	for v, c := range y.Cells {
		x.Cells[v] = joint(x.Cells[v], c)
	}
	for i := range y.Reached {
		x.Reached[i] = x.Reached[i] || y.Reached[i]
		x.Edges[i] = [2]bool{x.Edges[i][0] || y.Edges[i][0], x.Edges[i][1] || y.Edges[i][1]}
	}
	return x
}

func TestAllSmallGraphs(t *testing.T) {
	entries := []api.Block{block(jump(1), number(0, 1)), block(branch(0, 1, 2), number(0, 0)), block(branch(1, 2, 1), number(0, 1)), block(branch(1, 1, 1), not(0, 1)), block(branch(0, 2, 2), number(0, 1))}
	inner := []api.Ins{show(0), number(2, 1), not(2, 0), copyOf(2, 1), op(api.OpEq, 2, 0, 2), phi(2, 0), phi(2, 0, 0), phi(2, 0, 1), phi(2, 0, 2), phi(2, 2, 3), phi(2, 3, 1), phi(2, 0, 1, 3)}
	endings := []api.Term{jump(1), jump(2), branch(0, 1, 2), branch(1, 2, 1), branch(2, 1, 2), branch(3, 2, 2), back(2), trap(1)}
	var ones, twos []api.Block
	for _, ins := range inner {
		for _, end := range endings {
			ones = append(ones, block(end, ins))
			twos = append(twos, block(swapped(end), swappedIns(ins)))
		}
	}
	folded := 0
	for _, entry := range entries {
		for _, one := range ones {
			for _, two := range twos {
				g := truths(2, 4, entry, one, two)
				g.Params = row(1)
				if e, _ := graph.Check(alone(g)); e == api.OK && ssa.Is(g) {
					wantFolded(t, "a small graph", alone(g), 0)
					folded++
				}
			}
		}
	}
	if folded < 3000 {
		t.Errorf("%d were folded", folded)
	}
}

// swapped is an end, and an instruction, with 3 in 2's place and the other way round.
func swapped(end api.Term) api.Term {
	end.Arg = swappedVars(end.Arg)[0]
	return end
}

func swappedIns(x api.Ins) api.Ins {
	if sets(x) {
		x.Dst = 5 - x.Dst
	}
	x.Args = swappedVars(x.Args...)
	return x
}

func swappedVars(l ...int) []int {
	l = slices.Clone(l)
	for i, v := range l {
		if v >= 2 {
			l[i] = 5 - v
		}
	}
	return l
}

// P15.3: what is folded, folded once more with its least facts, is kept step by step.
func TestFoldedOnceMore(t *testing.T) {
	m := maker{odds: firstOdd}
	for range 3000 {
		p, f := m.program()
		q := with(p, f, wantFolded(t, "a made program", p, f))
		r := with(q, f, wantFolded(t, "folded once more", q, f))
		if len(q[f].Blocks) != len(r[f].Blocks) || graph.Count(q[f]) != graph.Count(r[f]) {
			t.Fatalf("%v becomes %v, and once more %v", p[f], q[f], r[f])
		}
		for from := range p {
			for _, seed := range []uint64{0, 1, m.number()} {
				for _, limit := range [][2]int{{0, 1}, {1, 1}, {2, 2}, {5, 1}, {60, 3}, {60, 0}} {
					wantSameRun(t, q, r, from, wordsFor(p[from], seed), limit[0], limit[1])
				}
			}
		}
	}
	for _, source := range sources {
		p := built(t, source)
		for f := range p {
			q := with(p, f, wantFolded(t, source, p, f))
			r := with(q, f, wantFolded(t, source, q, f))
			for n := range uint64(5) {
				for steps := range 30 {
					wantSameRun(t, q, r, 0, []uint64{n}, steps, 5)
				}
			}
		}
	}
}

func wantSameRun(t *testing.T, p, q []api.Graph, f int, args []uint64, steps, depth int) {
	t.Helper()
	a, e := run.Run(p, f, args, steps, depth)
	b, d := run.Run(q, f, args, steps, depth)
	if e != api.OK || d != api.OK || !isSame(a, b) {
		t.Fatalf("%v has become %v: the graph %d of %v with %d steps, depth %d shows %v, %d; it showed %v, %d", p, q, f, args, steps, depth, b, d, a, e)
	}
}

// One graph after the other may be folded: what is known of one hangs on none of the others.
func TestAllGraphsOfAProgram(t *testing.T) {
	m := maker{odds: firstOdd}
	for range 1500 {
		p, _ := m.program()
		for f := range p {
			if g, e := ssa.Build(p, f); e == api.OK {
				p[f] = g
			}
		}
		q := p
		for f := range p {
			g := wantFolded(t, "one by one", q, f)
			if h := wantFolded(t, "by itself", p, f); !sameGraph(g, h) {
				t.Fatalf("%v becomes %v beside others, %v beside those that are folded", p[f], h, g)
			}
			q = with(q, f, g)
		}
		for f := range p {
			for _, seed := range []uint64{0, 1, m.number()} {
				wantKeptRun(t, "all of them", p, q, f, wordsFor(p[f], seed), 50, 4)
			}
		}
	}
}

// By other numbers of blocks and variables all is kept likewise.
func TestBlocksRenumberedAndVariablesRenamed(t *testing.T) {
	m := maker{odds: firstOdd}
	for range 1500 {
		p, f := m.program()
		g := wantFolded(t, "as it was", p, f)
		q := with(p, f, m.renumbered(p[f]))
		h := wantFolded(t, "by other numbers", q, f)
		if len(g.Blocks) != len(h.Blocks) || graph.Count(g) != graph.Count(h) || countIns(g, api.InsPhi) != countIns(h, api.InsPhi) {
			t.Fatalf("%v becomes %v; as %v it becomes %v", p[f], g, q[f], h)
		}
	}
}
