package fold_test

import (
	"testing"

	"smithy/api"
	"smithy/fold"
	"smithy/run"
	"smithy/sccp"
)

// fork branches on what is known; the block 2 is never reached. 0: the parameter, 1: true, 2: set by the block 1, 3: by 2, 4: the phi of both, 5: what nobody sets.
func fork() api.Graph {
	return truths(1, 6,
		block(branch(1, 1, 2), number(1, 1)),
		block(jump(3), number(2, 0)),
		block(jump(3), not(3, 0)),
		block(back(4), phi(4, 2, 3)),
	)
}

func leastOfFork() api.Facts {
	return factsOf("1101", "10 10 00 00", varying, known(1), known(0), unseen, known(0), unseen)
}

// wantFork asks for what becomes of fork by its least facts, bent so that they hold still.
func wantFork(t *testing.T, what string, bend func(x *api.Facts), blocks ...api.Block) {
	t.Helper()
	x := leastOfFork()
	bend(&x)
	wantBecomeBy(t, what, fork(), x, blocks...)
}

func TestLeastFactsAndThoseAboveThem(t *testing.T) {
	folded := []api.Block{block(jump(1), number(1, 1)), block(jump(2), number(2, 0)), block(back(4), number(4, 0))}
	wantFork(t, "the least", func(x *api.Facts) {}, folded...)
	if !sameFacts(lowest(t, "fork", alone(fork()), 0), leastOfFork()) {
		t.Errorf("the test itself is wrong")
	}
	// What nobody sets, and what is set where nobody comes, is not written down, whatever is said of it.
	for _, c := range []api.Cell{known(0), known(1), varying} {
		wantFork(t, "what nobody sets", func(x *api.Facts) { x.Cells[5] = c }, folded...)
		wantFork(t, "what a block sets that goes", func(x *api.Facts) { x.Cells[3] = c }, folded...)
	}
	wantFork(t, "a phi that is Varying", func(x *api.Facts) { x.Cells[4] = varying },
		folded[0], folded[1], block(back(4), phi(4, 2)))
	wantFork(t, "an argument that is Varying, the phi with it", func(x *api.Facts) { x.Cells[2], x.Cells[4] = varying, varying },
		folded[0], folded[1], block(back(4), phi(4, 2)))
	// A block that is said to be reached goes still, if no way leads there.
	wantFork(t, "a block reached by no edge", func(x *api.Facts) {
		x.Reached[2], x.Edges[2][0] = true, true
		x.Cells[3], x.Cells[4] = varying, varying
	}, folded[0], folded[1], block(back(4), phi(4, 2)))
	wantFork(t, "an edge that need not be", func(x *api.Facts) {
		x.Edges[0][1], x.Reached[2], x.Edges[2][0] = true, true, true
		x.Cells[3], x.Cells[4] = varying, varying
	}, folded[0], folded[1], block(back(4), phi(4, 2)))
	wantFork(t, "the condition Varying, all that follows with it", func(x *api.Facts) {
		x.Cells[1] = varying
		x.Edges[0][1], x.Reached[2], x.Edges[2][0] = true, true, true
		x.Cells[3], x.Cells[4] = varying, varying
	}, block(branch(1, 1, 2), number(1, 1)), block(jump(3), number(2, 0)), block(jump(3), not(3, 0)), block(back(4), phi(4, 2, 3)))
	wantFork(t, "edges that an end does not name", func(x *api.Facts) {
		x.Edges[1][1], x.Edges[3] = true, [2]bool{true, true}
	}, folded...)
	wantFork(t, "edges of a block that is not reached", func(x *api.Facts) { x.Edges[2] = [2]bool{true, true} }, folded...)
}

// A branch that is known leads one way alone, though the facts have both edges: even if both lead to one block.
func TestEdgesThatNeedNotBe(t *testing.T) {
	g := truths(1, 3, block(branch(1, 1, 1), number(1, 1)), block(back(2), phi(2, 1)))
	for _, edges := range []string{"10 00", "11 00", "11 11"} {
		wantBecomeBy(t, "to one block", g, factsOf("11", edges, varying, known(1), known(1)), block(jump(1), number(1, 1)), block(back(2), number(2, 1)))
		wantBecomeBy(t, "to one block, its phi Varying", g, factsOf("11", edges, varying, known(1), varying), block(jump(1), number(1, 1)), block(back(2), phi(2, 1)))
	}
	wantBecomeBy(t, "Varying", g, factsOf("11", "11 00", varying, varying, varying), g.Blocks...)
	// A loop that is never gone round, the way round being in the facts.
	g = truths(1, 4, block(jump(1), number(1, 0)), block(branch(1, 2, 3), phi(2, 0, 3)), block(jump(1), not(3, 2)), block(back(2)))
	folded := []api.Block{block(jump(1), number(1, 0)), block(jump(2), phi(2, 0)), block(back(2))}
	for _, x := range []api.Facts{
		factsOf("1101", "10 01 00 00", varying, known(0), varying, unseen),
		factsOf("1111", "10 11 10 00", varying, known(0), varying, varying),
		factsOf("1111", "11 11 11 11", varying, known(0), varying, varying),
	} {
		wantBecomeBy(t, "never gone round", g, x, folded...)
	}
}

// A block that is said to be reached by no edge may have what is Unseen in it, a branch too: it goes.
func TestUnseenWhereItIsReached(t *testing.T) {
	const p, truth, one, two, made = 0, 1, 2, 3, 4
	g := truths(1, 5,
		block(branch(truth, 3, 1), number(truth, 1)),
		block(branch(made, 2, 3), phi(one, p), phi(two, truth), op(api.OpEq, made, two, p)),
		block(back(made)),
		block(trap(1)),
	)
	for _, x := range []api.Facts{
		factsOf("1001", "10 00 00 00", varying, known(1), unseen, unseen, unseen),
		factsOf("1101", "10 00 00 00", varying, known(1), unseen, unseen, unseen),
		factsOf("1101", "10 00 00 00", varying, known(1), varying, unseen, unseen),
		factsOf("1101", "10 01 00 00", varying, known(1), varying, unseen, known(0)),
		factsOf("1111", "10 11 11 00", varying, known(1), varying, known(1), varying),
	} {
		wantBecomeBy(t, "a branch on what is Unseen", g, x, block(jump(1), number(truth, 1)), block(trap(1)))
	}
}

// Constants that are said to be Varying stay as they are.
func TestConstantsThatAreVarying(t *testing.T) {
	for _, typ := range types {
		for _, w := range wordsOf(typ) {
			g := graphOf(typ, 0, 3, block(back(2), number(0, w), copyOf(1, 0), copyOf(2, 1)))
			wantBecomeBy(t, "all Varying", g, factsOf("1", "00", varying, varying, varying), g.Blocks...)
			wantBecomeBy(t, "one known", g, factsOf("1", "00", known(w), varying, varying), g.Blocks...)
			wantBecomeBy(t, "two known", g, factsOf("1", "00", known(w), known(w), varying), block(back(2), number(0, w), number(1, w), copyOf(2, 1)))
			// A copy of what is Varying is Varying: facts that know it do not hold.
			wantRefused(t, "known of what is Varying", api.ErrArg, alone(g), 0, factsOf("1", "00", varying, known(w), known(w)))
		}
	}
}

// eachFacts goes through all facts of a graph of truths.
func eachFacts(g api.Graph, do func(x api.Facts)) {
	cells := []api.Cell{unseen, known(0), known(1), varying}
	n, k := len(g.Blocks), len(g.Vars)
	x := api.Facts{Cells: make([]api.Cell, k), Reached: make([]bool, n), Edges: make([][2]bool, n)}
	for number := range 1 << (3*n + 2*k) {
		left := number
		digit := func(base int) int {
			d := left % base
			left /= base
			return d
		}
		for v := range k {
			x.Cells[v] = cells[digit(4)]
		}
		for i := range n {
			x.Reached[i], x.Edges[i] = digit(2) == 1, [2]bool{digit(2) == 1, digit(2) == 1}
		}
		do(x)
	}
}

// smallGraphs are some of which all facts can be gone through.
func smallGraphs() []api.Graph {
	return []api.Graph{
		truths(1, 2, block(back(1), not(1, 0))),
		truths(0, 2, block(jump(1), number(0, 1)), block(trap(1), copyOf(1, 0))),
		truths(1, 2, block(branch(0, 1, 1)), block(back(1), phi(1, 0))),
		truths(0, 2, block(jump(1), number(0, 1)), block(branch(1, 1, 1), phi(1, 0, 1), show(1))),
		truths(0, 3, block(jump(1), number(0, 1)), block(branch(1, 1, 2), phi(1, 0, 2), op(api.OpEq, 2, 1, 0), show(1)), block(back(1))),
		truths(0, 3, block(jump(1), number(0, 1)), block(branch(1, 1, 2), phi(1, 0, 2), not(2, 1), show(1)), block(back(1))),
		truths(1, 3, block(branch(0, 1, 2), number(1, 0)), block(jump(2)), block(back(2), phi(2, 1, 0))),
		truths(0, 3, block(branch(0, 1, 2), number(0, 0)), block(jump(2), number(1, 1)), block(branch(2, 1, 2), phi(2, 0, 1, 2))),
		truths(1, 3, block(branch(1, 1, 2), number(1, 1)), block(back(1), show(1)), block(back(2), not(2, 0))),
	}
}

// Of all facts of small graphs those that hold are taken, and what they make is kept; the others are refused.
func TestAllFactsOfSmallGraphs(t *testing.T) {
	for _, g := range smallGraphs() {
		p := alone(g)
		taken, refused := 0, 0
		eachFacts(g, func(x api.Facts) {
			if !sccp.Holds(p, 0, x) {
				if _, e := fold.Apply(p, 0, x); e != api.ErrArg {
					t.Fatalf("%v: by %v Apply tells %d", g, x, e)
				}
				refused++
				return
			}
			taken++
			q := alone(wantApplied(t, "a small graph", p, 0, x))
			for seed := range uint64(2) {
				for _, steps := range []int{0, 1, 2, 3, 5, 9} {
					wantKeptRun(t, "a small graph", p, q, 0, wordsFor(g, seed), steps, 1)
				}
			}
		})
		if taken < 2 || refused < 2 {
			t.Errorf("%v: %d are taken, %d refused", g, taken, refused)
		}
		wantFolded(t, "a small graph", p, 0)
	}
}

// Of facts that know less, less is written down: the greater they are, the more stays.
func TestWhatIsKnownIsWrittenDown(t *testing.T) {
	m := maker{odds: firstOdd}
	written, stayed := 0, 0
	for range 3000 {
		p, f := m.program()
		x := m.between(p[f], lowest(t, "a made program", p, f))
		g := wantApplied(t, "a made program", p, f, x)
		for _, b := range g.Blocks {
			if b.Term.Kind == api.TermBranch && x.Cells[b.Term.Arg].Kind == api.Known {
				t.Fatalf("by %v %v becomes %v", x, p[f], g)
			}
			for _, ins := range b.Ins {
				if !sets(ins) {
					continue
				}
				if x.Cells[ins.Dst].Kind != api.Known {
					stayed++
					continue
				}
				if written++; ins.Kind != api.InsConst || ins.Bits != x.Cells[ins.Dst].Bits {
					t.Fatalf("by %v %v becomes %v", x, p[f], g)
				}
			}
		}
	}
	if written < 5000 || stayed < 5000 {
		t.Errorf("%d were written down, %d stayed", written, stayed)
	}
}

// The same variable may be known of one program and not of another: nothing of facts is kept.
func TestFactsOfTwoCalls(t *testing.T) {
	p := alone(fork())
	for range 3 {
		for _, x := range []api.Facts{leastOfFork(), highest(fork())} {
			g := wantApplied(t, "in turn", p, 0, x)
			if sameGraph(g, fork()) != sameFacts(x, highest(fork())) {
				t.Errorf("by %v: %v", x, g)
			}
			if a, e := run.Run(alone(g), 0, []uint64{1}, 9, 1); e != api.OK || a.End != api.Told || a.Value != 0 {
				t.Errorf("by %v: %v, %d", x, a, e)
			}
		}
	}
}
