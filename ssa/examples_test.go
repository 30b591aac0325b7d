package ssa_test

import (
	"slices"
	"testing"

	"smithy/api"
)

// whole is a graph of I64 variables 0 on and, as the last one, a truth, whose first variables are its parameters; it tells an I64.
func whole(params, vars int, blocks ...api.Block) api.Graph {
	g := api.Graph{Name: "f", Params: counted(0, params), Result: api.I64, Vars: slices.Repeat([]api.Type{api.I64}, vars), Blocks: blocks}
	g.Vars = append(g.Vars, api.Bool)
	return g
}

// settingOf is the instruction of a graph that sets a variable, and its block; none, if there is none.
func settingOf(g api.Graph, v int) (api.Ins, int) {
	for i, b := range g.Blocks {
		for _, x := range b.Ins {
			if sets(x, v) {
				return x, i
			}
		}
	}
	return api.Ins{}, -1
}

// Two settings that meet: one phi, of both.
func TestExampleOne(t *testing.T) {
	g := api.Graph{Name: "f", Params: row(1), Result: api.I64, Vars: []api.Type{api.I64, api.Bool}, Blocks: []api.Block{
		block(branch(1, 1, 2), number(0, 1)),
		block(jump(2), number(0, 2)),
		block(back(0)),
	}}
	p := []api.Graph{g}
	h := wantKept(t, "two settings that meet", p, 0)
	if countPhis(h) != 1 {
		t.Fatalf("%v has %d phis", h, countPhis(h))
	}
	for i, b := range h.Blocks {
		if phisOf(b) == 0 {
			continue
		}
		ahead := blocksAhead(h, i)
		one, at := settingOf(h, b.Ins[0].Args[slices.Index(ahead, 0)])
		two, other := settingOf(h, b.Ins[0].Args[1-slices.Index(ahead, 0)])
		if one.Bits != 1 || at != 0 || two.Bits != 2 || other != ahead[1-slices.Index(ahead, 0)] || b.Term != back(b.Ins[0].Dst) {
			t.Errorf("%v: the phi has %v and %v", h, one, two)
		}
	}
	for word, want := range map[uint64]uint64{0: 1, 1: 2} {
		if a := wantSameRun(t, "two settings that meet", p, []api.Graph{h}, 0, []uint64{word}, 9, 1); a.Value != want {
			t.Errorf("of %d: %v", word, a)
		}
	}
}

// A loop that counts: one phi for what is counted, in the block that asks, and none for what it is counted up to.
func TestExampleTwo(t *testing.T) {
	const n, i, one, low = 0, 1, 2, 3
	g := whole(1, 3,
		block(jump(1), number(i, 0), number(one, 1)),
		block(branch(low, 2, 3), op(api.OpLt, low, i, n)),
		block(jump(1), show(i), op(api.OpAdd, i, i, one)),
		block(back(i)),
	)
	h := wantKept(t, "a loop that counts", []api.Graph{g}, 0)
	if countPhis(h) != 1 {
		t.Fatalf("%v has %d phis", h, countPhis(h))
	}
	at := slices.IndexFunc(h.Blocks, func(b api.Block) bool { return phisOf(b) > 0 })
	if x := h.Blocks[at].Ins; x[1].Kind != api.InsOp || x[1].Args[0] != x[0].Dst || x[1].Args[1] != h.Params[0] || h.Blocks[at].Term.Kind != api.TermBranch {
		t.Errorf("%v: the phi stands in %d", h, at)
	}
	for word := range uint64(6) {
		if a := wantSameRun(t, "a loop that counts", []api.Graph{g}, []api.Graph{h}, 0, []uint64{word}, 99, 1); a.Value != word || len(a.Shows) != int(word) {
			t.Errorf("up to %d: %v", word, a)
		}
	}
}

// A variable that is told but never set is 0, by an InsConst ahead.
func TestExampleThree(t *testing.T) {
	h := wantKept(t, "never set", []api.Graph{whole(0, 1, block(back(0)))}, 0)
	if len(h.Blocks) != 1 || len(h.Blocks[0].Ins) != 1 {
		t.Fatalf("%v", h)
	}
	if x := h.Blocks[0].Ins[0]; x.Kind != api.InsConst || x.Bits != 0 || h.Blocks[0].Term != back(x.Dst) || h.Vars[x.Dst] != api.I64 {
		t.Errorf("%v", h)
	}
}
