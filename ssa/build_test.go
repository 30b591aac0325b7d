package ssa_test

import (
	"slices"
	"testing"

	"smithy/api"
)

// wantPhis asks for all that is promised of a graph alone, and for so many phis.
func wantPhis(t *testing.T, what string, phis int, g api.Graph) api.Graph {
	t.Helper()
	h := wantKept(t, what, []api.Graph{g}, 0)
	if countPhis(h) != phis {
		t.Errorf("%s: %v is built as %v, with %d phis; want %d", what, g, h, countPhis(h), phis)
	}
	return h
}

func TestBlocksThatAreNotReached(t *testing.T) {
	for what, g := range map[string]api.Graph{
		"one alone":                  truths(1, 2, block(back(0)), block(back(0))),
		"one that sets what is told": truths(1, 2, block(jump(2)), block(jump(2), constant(0)), block(back(0))),
		"one that asks what is set":  truths(1, 2, block(branch(0, 2, 3)), block(back(1)), block(jump(3), constant(1)), block(back(0))),
		"a loop of them":             truths(1, 2, block(jump(3)), block(jump(2)), block(branch(0, 1, 3), constant(0)), block(back(0))),
		"one that leads to itself":   truths(1, 2, block(back(0)), block(branch(1, 1, 1), not(1, 1))),
		"behind a trap":              truths(1, 2, block(trap(3), show(0)), block(back(1), constant(1))),
		"two that lead to one":       truths(1, 2, block(jump(1)), block(back(1), show(0)), block(jump(1), not(1, 0)), block(jump(1), not(0, 1))),
	} {
		h := wantPhis(t, what, 0, g)
		n := 0
		for _, is := range reached(g, -1) {
			if is {
				n++
			}
		}
		if len(h.Blocks) != n {
			t.Errorf("%s: %d blocks; want %d", what, len(h.Blocks), n)
		}
	}
}

func TestLoops(t *testing.T) {
	wantPhis(t, "a block that leads to itself", 1, truths(2, 2, block(jump(1)), block(branch(1, 1, 2), show(1), not(1, 1)), block(back(1))))
	wantPhis(t, "a block that leads to itself alone", 1, truths(2, 2, block(jump(1)), block(jump(1), show(1), not(1, 1))))
	wantPhis(t, "a loop that sets what it asks later", 0, truths(1, 2, block(jump(1)), block(branch(0, 1, 2), constant(1), show(1)), block(back(1))))
	wantPhis(t, "a loop that sets nothing", 0, truths(2, 2, block(jump(1)), block(branch(0, 1, 2), show(1)), block(back(1))))
	wantPhis(t, "a loop whose variable begins as 0", 1, truths(1, 2, block(jump(1)), block(branch(0, 1, 2), not(1, 1), show(1)), block(back(0))))
	wantPhis(t, "a loop in a loop", 2, truths(2, 2,
		block(jump(1)),
		block(jump(2), show(1)),
		block(branch(1, 2, 3), not(1, 1)),
		block(branch(1, 1, 4), show(1)),
		block(back(1)),
	))
	wantPhis(t, "a loop with two ways in", 2, truths(2, 2,
		block(branch(0, 1, 2), show(1)),
		block(jump(2), not(1, 1)),
		block(branch(1, 1, 3), not(1, 1)),
		block(back(1)),
	))
	wantPhis(t, "two that change places", 2, truths(3, 4,
		block(jump(1)),
		block(branch(2, 2, 3), show(0), show(1)),
		block(jump(1), copyOf(3, 0), copyOf(0, 1), copyOf(1, 3)),
		block(back(0)),
	))
}

func TestBothEndsOfABranchToOneBlock(t *testing.T) {
	wantPhis(t, "the entry's", 0, truths(2, 2, block(branch(0, 1, 1), not(1, 0)), block(back(1))))
	wantPhis(t, "a loop's", 1, truths(2, 2, block(jump(1)), block(branch(1, 1, 1), show(1), not(1, 1))))
	h := wantPhis(t, "one of two blocks ahead", 1, truths(2, 2, block(branch(0, 1, 2)), block(branch(0, 2, 2), not(1, 1)), block(back(1))))
	for i, b := range h.Blocks {
		if phisOf(b) > 0 && len(b.Ins[0].Args) != 2 {
			t.Errorf("%v: the phi of %d has %d arguments", h, i, len(b.Ins[0].Args))
		}
	}
}

// No phi stands where nothing needs it, nor where one setting comes alone.
func TestNoPhiTooMany(t *testing.T) {
	meet := func(end api.Term, ins ...api.Ins) api.Graph {
		return truths(1, 3, block(branch(0, 1, 2)), block(jump(3), number(1, 1)), block(jump(3)), block(end, ins...))
	}
	wantPhis(t, "asked by an end", 1, meet(back(1)))
	wantPhis(t, "asked by an instruction", 1, meet(back(0), show(1)))
	wantPhis(t, "asked by nothing", 0, meet(back(0)))
	wantPhis(t, "set ahead of being asked", 0, meet(back(1), constant(1)))
	wantPhis(t, "asked in what is set by it", 1, meet(back(1), not(1, 1)))
	wantPhis(t, "a copy that nobody asks", 1, meet(back(0), copyOf(2, 1)))
	wantPhis(t, "a trap", 0, meet(trap(1)))
	// A loop in which a variable goes round, and nothing but the loop would ask it.
	wantPhis(t, "a circle that nobody asks", 0, truths(1, 2, block(branch(0, 1, 2)), block(jump(3), constant(1)), block(jump(3)), block(branch(0, 3, 4)), block(back(0))))
	wantPhis(t, "two circles that nobody asks", 0, truths(1, 2,
		block(branch(0, 1, 2)), block(jump(3), constant(1)), block(jump(3)),
		block(jump(4)), block(branch(0, 4, 5)), block(branch(0, 3, 6)), block(back(0)),
	))
	wantPhis(t, "needed by a phi alone", 2, truths(1, 2,
		block(branch(0, 1, 2)), block(jump(3), number(1, 1)), block(jump(3)),
		block(branch(0, 4, 5)), block(jump(5), constant(1)), block(back(1)),
	))
	wantPhis(t, "set alike in both", 1, truths(1, 2, block(branch(0, 1, 2)), block(jump(3), constant(1)), block(jump(3), constant(1)), block(back(1))))
	wantPhis(t, "set ahead of both", 0, truths(1, 2, block(branch(0, 1, 2), constant(1)), block(jump(3), show(1)), block(jump(3)), block(back(1))))
}

// What was never set is 0, of each type, wherever it is asked.
func TestNeverSetIsZero(t *testing.T) {
	for i, typ := range types {
		g := api.Graph{Name: "f", Params: row(1), Result: typ, Vars: []api.Type{typ, api.Bool}, Blocks: []api.Block{
			block(branch(1, 1, 2)),
			block(jump(2), show(0)),
			block(back(0)),
		}}
		h := wantPhis(t, "told but never set", 0, g)
		a := wantSameRun(t, "told but never set", []api.Graph{g}, []api.Graph{h}, 0, []uint64{1}, 9, 1)
		if a.End != api.Told || a.Value != 0 || !slices.Equal(a.Shows, []api.Show{{Type: typ}}) {
			t.Errorf("of the type %d: %v", i, a)
		}
		// Set in one block of two.
		g.Blocks[1].Ins = []api.Ins{{Kind: api.InsConst, Dst: 0, Bits: 1}}
		wantPhis(t, "set in one block", 1, g)
		// Set behind being told.
		g.Blocks[0].Ins = []api.Ins{show(0), {Kind: api.InsConst, Dst: 0, Bits: 1}, show(0)}
		wantPhis(t, "set behind being told", 1, g)
	}
	all := api.Graph{Name: "f", Result: api.I64, Vars: append(slices.Clone(types), types...), Blocks: []api.Block{block(jump(1)), block(back(3))}}
	for v := range all.Vars {
		all.Blocks[1].Ins = append(all.Blocks[1].Ins, show(v))
	}
	wantPhis(t, "of all types", 0, all)
}

// A parameter may be set again, like any variable.
func TestParametersThatAreSetAgain(t *testing.T) {
	h := wantPhis(t, "set again", 0, truths(2, 2, block(back(0), show(0), not(0, 1), show(0), not(0, 0))))
	if len(h.Params) != 2 || h.Params[0] == h.Params[1] {
		t.Errorf("%v", h)
	}
	wantPhis(t, "set again in one block", 1, truths(2, 2, block(branch(1, 1, 2)), block(jump(2), not(0, 0)), block(back(0))))
	wantPhis(t, "set again in a loop", 1, truths(1, 1, block(jump(1)), block(branch(0, 1, 2), not(0, 0), show(0)), block(back(0))))
	wantPhis(t, "never asked", 0, truths(2, 2, block(trap(1))))
	// Parameters that stand in another order than variables do.
	g := api.Graph{Name: "f", Params: row(4, 0, 2), Result: api.F64, Vars: []api.Type{api.U8, api.I64, api.F64, api.Bool, api.I32}, Blocks: []api.Block{
		block(jump(1), show(4), show(0), show(2), show(3)),
		block(back(2), op(api.OpAdd, 4, 4, 4), show(4)),
	}}
	wantPhis(t, "of several types", 0, g)
}

// Each kind of instruction is renamed wholly.
func TestAllKinds(t *testing.T) {
	callee := api.Graph{Name: "h", Params: row(1, 0), Result: api.U8, Vars: []api.Type{api.I64, api.F64, api.U8}, Blocks: []api.Block{block(back(2), show(0), show(1), cast(2, 0))}}
	const i, f, u, truth = 0, 1, 2, 3
	g := api.Graph{Name: "g", Params: row(f, i), Result: api.I64, Vars: []api.Type{api.I64, api.F64, api.U8, api.Bool},
		Arrays: []api.Array{{Type: api.U8, Size: 3}, {Type: api.F64, Size: 2}}, Blocks: []api.Block{
			block(jump(1)),
			block(branch(truth, 2, 3),
				call(1, u, f, i), store(0, i, u), load(u, 0, i), show(u), wipe(1), store(1, i, f), load(f, 1, i), show(f),
				cast(f, i), op(api.OpMul, f, f, f), op(api.OpSub, i, i, i), op(api.OpEq, truth, f, f), not(truth, truth), op(api.OpNeg, f, f), copyOf(f, f)),
			block(trap(2)),
			block(branch(truth, 1, 4), number(i, 1), load(u, 0, i), show(u), show(f), show(truth), op(api.OpLt, truth, i, i)),
			block(back(i)),
		}}
	p := []api.Graph{g, callee}
	wantKept(t, "all kinds", p, 0)
	wantKept(t, "one that is called", p, 1)
	for _, word := range []uint64{0, 1, 2, 3} {
		h := wantBuilt(t, "all kinds", p, 0)
		wantSameRun(t, "all kinds", p, []api.Graph{h, callee}, 0, []uint64{0x3ff8000000000000, word}, 50, 5)
	}
}

// Calls that are deep in one another, cut off anywhere, and traps, show the same at each number of steps and each depth.
func TestCutOffAnywhere(t *testing.T) {
	const n, one, low, rest, zero = 0, 1, 4, 2, 3
	g := whole(1, 4,
		block(branch(low, 1, 2), number(one, 1), op(api.OpLt, low, n, one)),
		block(branch(low, 3, 4), op(api.OpLt, low, n, zero), show(n)),
		block(jump(1), op(api.OpSub, n, n, one), call(0, rest, n), show(rest), op(api.OpAdd, n, n, rest)),
		block(trap(1)),
		block(back(n), op(api.OpAdd, n, n, rest)),
	)
	h := wantKept(t, "calls in one another", []api.Graph{g}, 0)
	count := map[api.End]int{}
	for _, word := range []uint64{0, 1, 4, 1<<64 - 1} {
		for steps := range 30 {
			for depth := range 8 {
				a := wantSameRun(t, "calls in one another", []api.Graph{g}, []api.Graph{h}, 0, []uint64{word}, steps, depth)
				count[a.End]++
			}
		}
	}
	for _, end := range []api.End{api.Told, api.Trapped, api.Steps, api.Deep} {
		if count[end] < 20 {
			t.Errorf("%d ended with %d", count[end], end)
		}
	}
}
