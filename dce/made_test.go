package dce_test

import (
	"slices"
	"testing"

	"smithy/api"
	"smithy/dce"
	"smithy/graph"
	"smithy/ssa"
)

// P17.1 and P17.2 of programs without a pattern, their runs cut off anywhere.
func TestMadePrograms(t *testing.T) {
	m := maker{odds: firstOdd}
	ends, kinds := map[api.End]int{}, map[api.InsKind]int{}
	needed := map[bool]int{}
	for range 6000 {
		p := m.program()
		f := m.below(len(p))
		g := wantKept(t, "a made program", p, f)
		words := neededByWords(p[f])
		wantTold(t, "a made program", words, p[f])
		for _, is := range words {
			needed[is]++
		}
		countGone(kinds, p[f], g)
		q := with(p, f, g)
		from, seed := m.below(len(p)), m.number()
		for steps := range 12 {
			ends[wantSameRun(t, "a made program", p, q, from, wordsFor(p[from], seed), steps, 1+m.below(5)).End]++
		}
		ends[wantSameRun(t, "a made program", p, q, from, wordsFor(p[from], seed), 300, 5).End]++
	}
	for _, end := range []api.End{api.Told, api.Trapped, api.Steps, api.Deep} {
		if ends[end] < 300 {
			t.Errorf("%d ended with %d", ends[end], end)
		}
	}
	for _, kind := range []api.InsKind{api.InsPhi, api.InsConst, api.InsCopy, api.InsOp, api.InsCast, api.InsLoad} {
		if kinds[kind] < 1000 {
			t.Errorf("%d of the kind %d are gone", kinds[kind], kind)
		}
	}
	if len(kinds) != 6 || needed[true] < 10000 || needed[false] < 10000 {
		t.Errorf("%v, %v", kinds, needed)
	}
}

// countGone counts the instructions that are gone by their kinds.
func countGone(kinds map[api.InsKind]int, was, is api.Graph) {
	count := func(g api.Graph, by int) {
		for _, b := range g.Blocks {
			for _, x := range b.Ins {
				if kinds[x.Kind] += by; kinds[x.Kind] == 0 {
					delete(kinds, x.Kind)
				}
			}
		}
	}
	count(was, 1)
	count(is, -1)
}

// P17.3: Apply of what it tells tells it again, all variables that it sets, but by calls, are needed, and the same are needed as before.
func TestToldOnceMore(t *testing.T) {
	m := maker{odds: firstOdd}
	for i := range 6000 {
		p, f := m.program(), 0
		if i%2 == 0 {
			p, f = m.onceProgram()
		}
		q := with(p, f, wantApplied(t, "a made program", p, f))
		if again := wantApplied(t, "told once more", q, f); !sameGraph(q[f], again) {
			t.Fatalf("%v becomes %v, and once more %v", p[f], q[f], again)
		}
		needed := dce.Needed(q[f])
		wantTold(t, "of what is told", needed, p[f])
		for _, b := range q[f].Blocks {
			for _, x := range b.Ins {
				if sets(x) && x.Kind != api.InsCall && !needed[x.Dst] {
					t.Fatalf("%v becomes %v, in which nobody asks for %d", p[f], q[f], x.Dst)
				}
			}
		}
	}
}

// P17.3: a graph that is set once is so still; one that is not may be so now, or not.
func TestSetOnceStill(t *testing.T) {
	m := maker{odds: firstOdd}
	gone := map[api.InsKind]int{}
	for range 4000 {
		p, f := m.onceProgram()
		if !ssa.Is(p[f]) {
			t.Fatalf("%v is not set once", p[f])
		}
		g := wantKept(t, "a graph that is set once", p, f)
		if !ssa.Is(g) {
			t.Fatalf("%v becomes %v, which is not set once", p[f], g)
		}
		countGone(gone, p[f], g)
	}
	if gone[api.InsPhi] < 1000 || gone[api.InsOp] < 1000 || gone[api.InsConst] < 500 {
		t.Errorf("%v", gone)
	}
	// What is not set once becomes so, where nobody asks for what is set twice.
	vain := truths(1, 3, block(jump(1), number(1, 0), number(2, 1)), block(back(0), copyOf(1, 2), show(0)))
	if h := wantKept(t, "set twice in vain", alone(vain), 0); ssa.Is(vain) || !ssa.Is(h) {
		t.Errorf("%v becomes %v", vain, h)
	}
	vain.Blocks[1].Term = back(1)
	if h := wantKept(t, "set twice", alone(vain), 0); ssa.Is(h) {
		t.Errorf("%v becomes %v", vain, h)
	}
}

// All graphs of three blocks whose instructions and ends are some of these.
func TestAllSmallGraphs(t *testing.T) {
	inner := []api.Ins{number(1, 1), not(1, 2), copyOf(2, 1), op(api.OpXor, 2, 1, 3), phi(1, 2), phi(3, 1, 2), phi(2, 2, 2), phi(2, 1, 3, 0), call(0, 3, 1), load(4, 0, 3), store(0, 4, 2), wipe(0), show(2)}
	endings := []api.Term{jump(1), jump(2), branch(0, 1, 2), branch(2, 2, 1), back(3), trap(1)}
	entries := []api.Block{block(jump(1)), block(branch(0, 1, 2), copyOf(3, 2)), block(branch(1, 2, 1), number(3, 1)), block(jump(2), number(4, 1), call(0, 2, 3))}
	var rest []api.Block
	for _, x := range inner {
		for _, end := range endings {
			rest = append(rest, block(end, x))
		}
	}
	count := map[bool]int{}
	goneBefore := map[int]int{}
	for _, entry := range entries {
		for _, one := range rest {
			for _, two := range rest {
				g := truths(1, 4, entry, one, two)
				g.Vars = append(g.Vars, api.I64)
				want := neededByWords(g)
				count[len(want) > 0]++
				wantTold(t, "a small graph", want, g)
				if len(want) == 0 {
					wantRefused(t, "a small graph", api.ErrShape, alone(g), 0)
				} else if e, _ := graph.Check(alone(g)); e == api.OK {
					h := wantKept(t, "a small graph", alone(g), 0)
					goneBefore[countAll(g)-countAll(h)]++
				}
			}
		}
	}
	if count[true] < 1000 || count[false] < 1000 || goneBefore[0] < 500 || goneBefore[1] < 500 || goneBefore[2] < 100 {
		t.Errorf("%v, %v", count, goneBefore)
	}
}

// One graph after the other may be told: what becomes of one hangs on none of the others.
func TestAllGraphsOfAProgram(t *testing.T) {
	m := maker{odds: firstOdd}
	for range 2000 {
		p := m.program()
		q := p
		for f := range p {
			g := wantKept(t, "one by one", q, f)
			if h := wantKept(t, "by itself", p, f); !sameGraph(g, h) {
				t.Fatalf("%v becomes %v beside others, %v beside those that are told", p[f], h, g)
			}
			q = with(q, f, g)
		}
		for f := range p {
			for _, seed := range []uint64{0, 1, m.number()} {
				wantSameRun(t, "all of them", p, q, f, wordsFor(p[f], seed), 50, 4)
			}
		}
	}
}

// By other numbers of blocks and variables it is just so: which block stands first, but for the entry, plays no part.
func TestBlocksRenumberedAndVariablesRenamed(t *testing.T) {
	m := maker{odds: firstOdd}
	for range 3000 {
		p := m.program()
		f := m.below(len(p))
		blocks, vars := m.shuffledBlocks(len(p[f].Blocks)), m.shuffled(len(p[f].Vars))
		q := with(p, f, renamed(p[f], blocks, vars))
		was, is := dce.Needed(p[f]), dce.Needed(q[f])
		for v, w := range vars {
			if was[v] != is[w] {
				t.Fatalf("%v: %d is needed: %v; by other numbers, %v, %d: %v", p[f], v, was[v], q[f], w, is[w])
			}
		}
		if g, h := wantApplied(t, "as it was", p, f), wantApplied(t, "by other numbers", q, f); !sameGraph(renamed(g, blocks, vars), h) {
			t.Fatalf("%v becomes %v; as %v it becomes %v", p[f], g, q[f], h)
		}
	}
}

// What is put in that nobody asks for goes again, and nothing else does.
func TestWhatIsPutInGoesAgain(t *testing.T) {
	m := maker{odds: firstOdd}
	for range 3000 {
		p := m.program()
		f := m.below(len(p))
		g := wantApplied(t, "a made program", p, f)
		more := copied(g)
		n := len(g.Vars)
		// As many new variables of each type again: what sets these is asked by what sets these alone.
		more.Vars = append(more.Vars, g.Vars...)
		for range 1 + m.below(8) {
			b := &more.Blocks[m.below(len(more.Blocks))]
			x := m.ins(p, more, false)
			if x.Dst < n {
				x.Dst += n
			}
			at := 0
			for at < len(b.Ins) && b.Ins[at].Kind == api.InsPhi {
				at++
			}
			b.Ins = slices.Insert(b.Ins, at+m.below(len(b.Ins)-at+1), x)
		}
		want := withBlocks(more, g.Blocks...)
		if h := wantKept(t, "more than is asked", with(p, f, more), f); !sameGraph(h, want) {
			t.Fatalf("%v with more in it, %v, becomes %v", g, more, h)
		}
	}
}
