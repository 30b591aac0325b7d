package tidy_test

import (
	"slices"
	"testing"

	"smithy/api"
	"smithy/graph"
	"smithy/run"
)

// What stands one behind the other becomes one, in its order: instructions of each kind, whatever the end.
func TestRowsBecomeOne(t *testing.T) {
	i, b, f := api.I64, api.Bool, api.F64
	ins := []api.Ins{
		number(2, 7), op(api.OpAdd, 3, 0, 2), show(3), wipe(0), store(0, 2, 3), cast(4, 3), load(5, 0, 2),
		copyOf(6, 5), call(0, 7, 6, 1), op(api.OpLt, 8, 7, 3), show(4), show(8),
	}
	for _, end := range []api.Term{back(7), trap(2)} {
		for cuts := range 1 << (len(ins) - 1) {
			if cuts%37 > 1 {
				continue
			}
			g := api.Graph{Name: "g", Params: row(0, 1), Result: i, Vars: []api.Type{i, b, i, i, f, i, i, i, b}, Arrays: []api.Array{{Type: i, Size: 9}}, Blocks: []api.Block{{}}}
			for k, x := range ins {
				last := &g.Blocks[len(g.Blocks)-1]
				last.Ins = append(last.Ins, x)
				if cuts>>k&1 == 1 {
					last.Term = jump(len(g.Blocks))
					g.Blocks = append(g.Blocks, api.Block{})
				}
			}
			g.Blocks[len(g.Blocks)-1].Term = end
			wantBecome(t, "a row", g, block(end, ins...))
		}
	}
}

// The blocks of a row may be numbered in any order; what is put together is as it stands along the row.
func TestRowsInAnyOrder(t *testing.T) {
	m := maker{odds: firstOdd}
	for n := 2; n < 12; n++ {
		g, all, last := graphOf(api.U8, 1, n+1), []api.Ins(nil), 0
		for b := range n {
			var ins []api.Ins
			if b%3 != 2 {
				ins = []api.Ins{op(api.OpSub, b+1, 0, last), show(b + 1)}
				last = b + 1
			}
			g.Blocks = append(g.Blocks, block(jump(b+1), ins...))
			all = append(all, ins...)
		}
		g.Blocks[n-1].Term = back(0)
		for range 4 {
			h := renamed(g, m.shuffledBlocks(n), counted(0, n+1))
			wantBecome(t, "a row", h, block(back(0), all...))
		}
	}
}

// A row that ends where it leads back into itself stays a loop.
func TestRowsThatLeadBack(t *testing.T) {
	// Back to the row's second block: two are ahead of that.
	g := truths(1, 4,
		block(jump(1), not(1, 0), show(1)),
		block(jump(2), phi(2, 0, 3), show(2)),
		block(jump(3), not(3, 2)),
		block(jump(1), show(3)),
	)
	wantBecome(t, "back to the second one", g, block(jump(1), not(1, 0), show(1)), block(jump(1), phi(2, 0, 3), show(2), not(3, 2), show(3)))
	// Back to it by a branch.
	g.Blocks[3].Term = branch(3, 4, 1)
	g.Blocks = append(g.Blocks, block(jump(5), copyOf(0, 2)), block(back(3), show(2)))
	g.Blocks[4].Ins = []api.Ins{show(3)}
	wantBecome(t, "back by a branch", g, block(jump(1), not(1, 0), show(1)), block(branch(3, 2, 1), phi(2, 0, 3), show(2), not(3, 2), show(3)), block(back(3), show(3), show(2)))
	// Empty but for the phi.
	g = truths(1, 3, block(jump(1)), block(jump(2), phi(1, 0, 2)), block(jump(3), not(2, 1)), block(jump(1)))
	wantBecome(t, "by an empty block", g, block(jump(1)), block(jump(1), phi(1, 0, 2), not(2, 1)))
}

// A branch that leads to one block is a jump; what it asked is asked by nobody then.
func TestBranchesThatChooseNothing(t *testing.T) {
	g := truths(1, 3, block(branch(1, 1, 1), not(1, 0)), block(branch(2, 2, 2), not(2, 1), show(2)), block(back(2)))
	wantBecome(t, "a row of them", g, block(back(2), not(1, 0), not(2, 1), show(2)))
	g = truths(1, 2, block(branch(0, 1, 1)), block(branch(0, 1, 1), show(0)))
	wantBecome(t, "to itself", g, block(jump(1)), block(jump(1), show(0)))
	g = truths(1, 2, block(branch(0, 1, 1)), block(branch(0, 1, 2), phi(1, 0, 1)), block(branch(1, 3, 3)), block(back(1)))
	wantBecome(t, "in and out of a loop with a phi", g, block(jump(1)), block(branch(0, 1, 2), phi(1, 0, 1)), block(back(1)))
	// The empty block that it makes leads where the head leads by its other way: so it stays, as a jump.
	g = truths(1, 2, block(branch(0, 1, 1)), block(branch(0, 1, 2), phi(1, 0, 0, 1)), block(branch(1, 1, 1)))
	wantBecome(t, "a way round back to a phi", g, block(jump(1)), block(branch(0, 1, 2), phi(1, 0, 0, 1)), block(jump(1)))
}

// Branches both ways of which lead to one block by empty ones, one in another: all of it goes.
func TestBranchesWhoseWaysMeet(t *testing.T) {
	for n := 1; n < 9; n++ {
		// The block b branches to b+1, or to the last one; what stands between is empty.
		g, other := truths(1, 1), truths(1, 1)
		for b := range n {
			g.Blocks = append(g.Blocks, block(branch(0, b+1, n)))
			other.Blocks = append(other.Blocks, block(branch(0, n, b+1)))
		}
		g.Blocks, other.Blocks = append(g.Blocks, block(back(0))), append(other.Blocks, block(back(0)))
		wantBecome(t, "to one block", g, block(back(0)))
		wantBecome(t, "to one block, the other way round", other, block(back(0)))
		// Diamonds in a row.
		g = truths(1, 1)
		for b := range n {
			g.Blocks = append(g.Blocks, block(branch(0, 3*b+1, 3*b+2)), block(jump(3*b+3)), block(jump(3*b+3)))
		}
		g.Blocks = append(g.Blocks, block(back(0), show(0)))
		wantBecome(t, "diamonds", g, block(back(0), show(0)))
		// One side of the middle one shows something: that one stays.
		g.Blocks[n/2*3+1].Ins = []api.Ins{show(0)}
		wantBecome(t, "diamonds, one of which is not empty", g, block(branch(0, 1, 2)), block(jump(2), show(0)), block(back(0), show(0)))
		// The last one begins with a phi: that one stays, but for one side.
		g.Blocks[n/2*3+1].Ins = nil
		g.Vars = append(g.Vars, api.Bool)
		g.Blocks[3*n].Ins = []api.Ins{phi(1, 0, 0), show(1)}
		if h := wantKept(t, "diamonds, with a phi behind the last one", alone(g), 0); len(h.Blocks) != 3 {
			t.Errorf("%v becomes %v", g, h)
		}
	}
}

// Phis of a block that has one block ahead, which becomes one with that one: they have what they had for it.
func TestPhisWithOneArgument(t *testing.T) {
	for _, typ := range types {
		g := graphOf(typ, 2, 5, block(jump(1)), block(back(4), phi(2, 0), phi(3, 1), copyOf(4, 2), show(2), show(3)))
		wantBecome(t, "two of them", g, block(back(4), copyOf(2, 0), copyOf(3, 1), copyOf(4, 2), show(2), show(3)))
	}
	g := truths(2, 5, block(branch(0, 1, 1), show(0)), block(branch(2, 2, 2), phi(2, 1)), block(jump(3), phi(3, 2), show(3)), block(back(4), phi(4, 3)))
	wantBecome(t, "one behind the other", g, block(back(4), show(0), copyOf(2, 1), copyOf(3, 2), show(3), copyOf(4, 3)))
	g = truths(2, 4, block(branch(0, 1, 2)), block(jump(3), not(2, 1)), block(trap(1)), block(back(3), phi(3, 2), show(3)))
	wantBecome(t, "of what is set in the block that goes", g, block(branch(0, 1, 2)), block(back(3), not(2, 1), copyOf(3, 2), show(3)), block(trap(1)))
	g = truths(2, 4, block(branch(0, 1, 2)), block(jump(3)), block(trap(1)), block(back(3), phi(3, 0), show(3)))
	wantBecome(t, "ahead of which an empty block stands", g, block(branch(0, 1, 2)), block(back(3), copyOf(3, 0), show(3)), block(trap(1)))
	// The entry alone branches there: the phi stays.
	g = truths(2, 3, block(branch(0, 1, 2)), block(back(2), phi(2, 1)), block(trap(1)))
	wantStay(t, "that is branched to", g)
}

// An empty block that goes hands on what a phi had for it, to each block ahead of it.
func TestPhisWhoseArgumentsComeByBlocksThatGo(t *testing.T) {
	// 0 branches to 1 and 2, 1 to 3 and 4; 3 and 2 are empty, 4 is full.
	const x, a, b, c, met = 0, 1, 2, 3, 4
	g := truths(4, 5,
		block(branch(x, 1, 2)),
		block(branch(a, 3, 4), show(a)),
		block(jump(5)),
		block(jump(5)),
		block(jump(5), show(b)),
		block(back(met), phi(met, a, b, c), show(met)),
	)
	wantBecome(t, "from 2, 3 and 4", g,
		block(branch(x, 1, 3)), block(branch(a, 3, 2), show(a)), block(jump(3), show(b)), block(back(met), phi(met, a, b, c), show(met)))
	// The same by other numbers: the arguments stand in another order.
	h := renamed(g, row(0, 4, 3, 1, 5, 2), counted(0, 5))
	wantBecome(t, "by other numbers", h,
		block(branch(x, 3, 2)), block(jump(2), show(b)), block(back(met), phi(met, a, c, b), show(met)), block(branch(a, 2, 1), show(a)))
	// Several blocks ahead of the one that goes: all have what it had.
	g = truths(4, 5,
		block(branch(x, 1, 2), show(x)),
		block(branch(a, 3, 4), show(a)),
		block(branch(b, 3, 4), show(b)),
		block(jump(5)),
		block(jump(5), show(c)),
		block(back(met), phi(met, a, c), show(met)),
	)
	wantBecome(t, "two that branch to the one that goes", g,
		block(branch(x, 1, 2), show(x)), block(branch(a, 4, 3), show(a)), block(branch(b, 4, 3), show(b)), block(jump(4), show(c)), block(back(met), phi(met, a, a, c), show(met)))
	// A row of empty blocks, into which more come further down.
	g = truths(4, 5,
		block(branch(x, 1, 2), show(x)),
		block(branch(a, 3, 7), show(a)),
		block(branch(b, 4, 7), show(b)),
		block(jump(4)),
		block(jump(5)),
		block(jump(6)),
		block(back(met), phi(met, b, c), show(met)),
		block(jump(6), show(c)),
	)
	wantBecome(t, "a row into which others come", g,
		block(branch(x, 1, 2), show(x)), block(branch(a, 4, 3), show(a)), block(branch(b, 4, 3), show(b)), block(jump(4), show(c)), block(back(met), phi(met, b, b, c), show(met)))
}

// Several empty blocks lead to one block with phis: all go but those that one block chooses among by them.
func TestSeveralEmptyBlocksToOnePhi(t *testing.T) {
	// 0 chooses among 1 and 2, both of which lead to 3: one of them stays, so that it is still told which way control came.
	g := truths(3, 4, block(branch(0, 1, 2)), block(jump(3)), block(jump(3)), block(back(3), phi(3, 1, 2), show(3)))
	wantClean(t, "two ways", false, g)
	if h := wantKept(t, "two ways", alone(g), 0); len(h.Blocks) != 3 || countEnds(h, api.TermBranch) != 1 {
		t.Errorf("%v becomes %v", g, h)
	}
	// A tree of choices: of two ways from one block one at most may be without a block.
	const n = 15
	g = truths(1, 1)
	for b := range n {
		g.Blocks = append(g.Blocks, block(branch(0, 2*b+1, 2*b+2), show(0)))
	}
	var args []int
	for b := n; b <= 2*n; b++ {
		v := len(g.Vars)
		g.Vars = append(g.Vars, api.Bool)
		g.Blocks[0].Ins = append(g.Blocks[0].Ins, number(v, uint64(b%2)))
		g.Blocks = append(g.Blocks, block(jump(2*n+1)))
		args = append(args, v)
	}
	g.Vars = append(g.Vars, api.Bool)
	g.Blocks = append(g.Blocks, block(back(n+2), phi(n+2, args...), show(n+2)))
	if h := wantKept(t, "a tree", alone(g), 0); len(h.Blocks) != len(g.Blocks)-(n+1)/2 {
		t.Errorf("%v becomes %v", g, h)
	}
}

// Loops whose phis ask themselves, or one another, all at once; the way back leads by blocks that go.
func TestPhisOfLoops(t *testing.T) {
	g := truths(2, 3, block(jump(1)), block(branch(0, 2, 3), phi(2, 1, 2), show(2)), block(jump(1)), block(back(2)))
	wantBecome(t, "one that asks itself", g, block(jump(1)), block(branch(0, 1, 2), phi(2, 1, 2), show(2)), block(back(2)))
	g = truths(3, 6, block(jump(1)), block(jump(2)), block(branch(3, 3, 5), phi(3, 0, 4), phi(4, 1, 5), phi(5, 2, 3), show(3)), block(jump(4), show(5)), block(jump(2)), block(back(4)))
	wantBecome(t, "three that change places", g, block(jump(1)), block(branch(3, 2, 3), phi(3, 0, 4), phi(4, 1, 5), phi(5, 2, 3), show(3)), block(jump(1), show(5)), block(back(4)))
	// Both ways back go by an empty block of their own: one stays, as the head is ahead of both.
	g = truths(2, 4, block(jump(1)), block(branch(0, 2, 3), phi(2, 0, 2, 3), phi(3, 1, 3, 2), show(2), show(3)), block(jump(1)), block(jump(1)))
	if h := wantKept(t, "two ways back", alone(g), 0); len(h.Blocks) != 3 {
		t.Errorf("%v becomes %v", g, h)
	}
	// The way in, too: the entry jumps to an empty one, and to it others lead back.
	g = truths(2, 3, block(jump(1)), block(jump(2)), block(branch(2, 1, 3), phi(2, 0), show(2)), block(back(2)))
	wantBecome(t, "back to the block ahead", g, block(jump(1)), block(branch(2, 1, 2), copyOf(2, 0), show(2)), block(back(2)))
	// A loop of an empty block and one with a phi, which then is ahead of itself.
	g = truths(2, 4, block(jump(2)), block(jump(2)), block(branch(0, 1, 3), phi(2, 1, 3), not(3, 2), show(3)), block(back(3)))
	wantBecome(t, "a loop of two", g, block(jump(1)), block(branch(0, 1, 2), phi(2, 1, 3), not(3, 2), show(3)), block(back(3)))
}

// A phi asks what is set in a block that becomes one with others, as the first, a middle and the last one.
func TestPhisOfWhatIsSetInBlocksThatGo(t *testing.T) {
	for at := 1; at <= 4; at++ {
		blocks := []api.Block{block(branch(0, 1, 5)), block(jump(2)), block(jump(3)), block(jump(4)), block(jump(6)), block(jump(6), show(1)), block(back(3), phi(3, 2, 1), show(3))}
		blocks[at].Ins = []api.Ins{not(2, 1)}
		g := truths(2, 4, blocks...)
		wantBecome(t, "a row of four", g, block(branch(0, 1, 2)), block(jump(3), not(2, 1)), block(jump(3), show(1)), block(back(3), phi(3, 2, 1), show(3)))
		if at > 1 {
			g.Blocks[1].Ins = []api.Ins{show(0)}
			wantBecome(t, "a row of four, two of which are full", g, block(branch(0, 1, 2)), block(jump(3), show(0), not(2, 1)), block(jump(3), show(1)), block(back(3), phi(3, 2, 1), show(3)))
		}
	}
}

// The entry may become one with others, which lead to a phi: it is the entry still, and comes first among those ahead.
func TestTheEntryBecomesOneWithOthers(t *testing.T) {
	g := truths(2, 3, block(jump(3)), block(branch(2, 1, 2), phi(2, 2, 1), show(2)), block(back(2)), block(jump(4), show(1)), block(jump(1)))
	want := []api.Block{block(jump(1), show(1)), block(branch(2, 1, 2), phi(2, 1, 2), show(2)), block(back(2))}
	wantBecome(t, "a loop behind it", g, want...)
	g = truths(2, 3, block(jump(2)), block(back(0)), block(jump(3), not(2, 1)), block(branch(2, 1, 4), show(2)), block(trap(3)))
	wantBecome(t, "a branch behind it", g, block(branch(2, 1, 2), not(2, 1), show(2)), block(back(0)), block(trap(3)))
}

// Blocks that nobody needs to put together keep their order, and all else of the graph is as it was.
func TestWhatStays(t *testing.T) {
	g := api.Graph{Name: "g", Params: row(5, 1, 3), Result: api.U8, Vars: []api.Type{api.U8, api.U8, api.Bool, api.F64, api.U8, api.Bool, api.U8}, Arrays: []api.Array{{Type: api.F64, Size: 2}, {Type: api.U8, Size: 256}}, Blocks: []api.Block{
		block(branch(5, 4, 3)),
		block(back(1), show(3)),
		block(trap(2), show(5)),
		block(jump(5)),
		block(branch(5, 2, 5)),
		block(jump(1)),
	}}
	h := wantKept(t, "what stays", alone(g), 0)
	want := withBlocks(g, block(branch(5, 3, 1)), block(back(1), show(3)), block(trap(2), show(5)), block(branch(5, 2, 1)))
	if !sameGraph(h, want) {
		t.Errorf("%v becomes %v; want %v", g, h, want)
	}
}

// Blocks that go take no steps any more; all others one each.
func TestSteps(t *testing.T) {
	for n := 1; n < 20; n++ {
		g := truths(1, 1)
		for b := range n {
			g.Blocks = append(g.Blocks, block(jump(b+1), show(0)))
		}
		g.Blocks = append(g.Blocks, block(back(0)))
		h := wantKept(t, "a row", alone(g), 0)
		for steps := range n + 3 {
			a, b := wantNoMore(t, "a row", alone(g), alone(h), 0, []uint64{1}, steps, 1)
			if a.Steps != min(steps, n+1) || b.Steps != min(steps, 1) || len(a.Shows) != min(steps, n) || len(b.Shows) != n*min(steps, 1) {
				t.Errorf("with %d steps: %v, %v", steps, a, b)
			}
		}
	}
	// A loop of three blocks becomes one of one: it shows thrice as much in as many steps.
	g := truths(1, 1, block(jump(1)), block(jump(2)), block(jump(3), show(0)), block(jump(1)))
	h := wantKept(t, "a loop", alone(g), 0)
	for _, steps := range []int{0, 1, 2, 3, 10, 100} {
		b, e := run.Run(alone(h), 0, []uint64{1}, steps, 1)
		if e != api.OK || len(b.Shows) != max(steps-1, 0) || b.End != api.Steps {
			t.Errorf("with %d steps: %v, %d", steps, b, e)
		}
	}
	if n := graph.Count(h); n != 3 {
		t.Errorf("%v", h)
	}
}

// Runs of a graph with all of the kinds of blocks that go, for each word, as far as each number of steps leads.
func TestOneOfEach(t *testing.T) {
	const p, q, r, one, two, three, met, other = 0, 1, 2, 3, 4, 5, 6, 7
	g := truths(3, 8,
		block(jump(1), number(one, 1)),
		block(branch(p, 2, 3), show(p)),
		block(branch(q, 4, 4), number(two, 0)),
		block(branch(r, 5, 6)),
		block(jump(7), show(q)),
		block(jump(7)),
		block(jump(7), not(three, r)),
		block(branch(met, 8, 9), phi(met, two, one, three), phi(other, one, p, q), show(met), show(other)),
		block(jump(10)),
		block(jump(10)),
		block(branch(other, 1, 11)),
		block(jump(12), show(r)),
		block(back(met)),
	)
	g.Blocks[10].Term = branch(other, 11, 11)
	h := wantKept(t, "one of each", alone(g), 0)
	if len(h.Blocks) != 5 || graph.Count(h)-len(h.Blocks) != graph.Count(g)-len(g.Blocks) {
		t.Errorf("%v becomes %v", g, h)
	}
	for w := range 8 {
		words := []uint64{uint64(w & 1), uint64(w >> 1 & 1), uint64(w >> 2)}
		for steps := range 16 {
			wantNoMore(t, "one of each", alone(g), alone(h), 0, words, steps, 1)
		}
	}
}

// Lists that a graph has in several places are each their own in what is told.
func TestSharedListsAreToldApart(t *testing.T) {
	args := row(0, 0)
	ins := []api.Ins{{Kind: api.InsStore, Args: args}, {Kind: api.InsStore, Args: args}, {Kind: api.InsPrint, Args: args[:1]}}
	g := graphOf(api.I64, 1, 1, block(jump(1), ins...), block(back(0), ins[1:]...))
	g.Params, g.Arrays = args[:1], []api.Array{{Type: api.I64, Size: 1}}
	h := wantKept(t, "shared lists", alone(g), 0)
	if len(h.Blocks) != 1 || len(h.Blocks[0].Ins) != 5 {
		t.Fatalf("%v becomes %v", g, h)
	}
	h.Params[0] = 9
	for i, x := range h.Blocks[0].Ins {
		x.Args[0] = 10 + i
	}
	for i, x := range h.Blocks[0].Ins {
		if x.Args[0] != 10+i || h.Params[0] != 9 || !slices.Equal(args, row(0, 0)) {
			t.Errorf("%v, %v", h, args)
		}
	}
}
