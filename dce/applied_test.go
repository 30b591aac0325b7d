package dce_test

import (
	"slices"
	"testing"

	"smithy/api"
	"smithy/ssa"
)

// whole is a graph of each kind of instruction and end, needed and not: 8 to 15 are as 0 to 7, but nobody asks for them.
func whole() api.Graph {
	vars := []api.Type{api.I64, api.Bool, api.I64, api.I64, api.F64, api.U8, api.I64, api.I64}
	return api.Graph{Name: "whole", Params: row(1, 0, 9), Result: api.I64, Vars: slices.Repeat(vars, 2), Arrays: []api.Array{{Type: api.U8, Size: 256}, {Type: api.F64, Size: 3}}, Blocks: []api.Block{
		block(branch(1, 3, 1), number(2, 5), number(10, 6), sum(3, 0, 2), sum(11, 3, 10), cast(4, 3), cast(12, 11), wipe(1), store(1, 2, 4)),
		block(jump(4), load(5, 0, 2), load(13, 0, 11), call(1, 6, 5), call(1, 14, 5), wipe(0), copyOf(8, 14)),
		block(jump(4), sum(8, 8, 8)),
		block(branch(1, 1, 5), op(api.OpSub, 8, 3, 10), wipe(1)),
		block(back(7), phi(15, 6, 14), phi(7, 6, 2), phi(11, 0, 11), show(7), show(4), sum(15, 7, 8)),
		block(trap(2), op(api.OpLt, 9, 10, 11), show(5)),
	}}
}

// beside is a graph that whole calls, and that calls it.
func beside() api.Graph {
	return api.Graph{Name: "beside", Params: row(2), Result: api.I64, Vars: []api.Type{api.I64, api.Bool, api.U8, api.I64, api.I64}, Blocks: []api.Block{
		block(branch(1, 2, 1), number(3, 200), cast(0, 2), op(api.OpLt, 1, 3, 0)),
		block(back(0)),
		block(back(3), cast(2, 3), call(0, 0, 1, 3, 1), sum(4, 0, 3)),
	}}
}

// Just those instructions are gone that do nothing but set what is not needed; all others are in their order with all their fields, and all else is as it was.
func TestWhole(t *testing.T) {
	p := []api.Graph{whole(), beside()}
	wantNeeded(t, "a whole graph", p[0], counted(0, 8)...)
	want := withBlocks(whole(),
		block(branch(1, 3, 1), number(2, 5), sum(3, 0, 2), cast(4, 3), wipe(1), store(1, 2, 4)),
		block(jump(4), load(5, 0, 2), call(1, 6, 5), call(1, 14, 5), wipe(0)),
		block(jump(4)),
		block(branch(1, 1, 5), wipe(1)),
		block(back(7), phi(7, 6, 2), show(7), show(4)),
		block(trap(2), show(5)),
	)
	got := wantKept(t, "a whole graph", p, 0)
	if !sameGraph(got, want) {
		t.Errorf("%v becomes %v; want %v", p[0], got, want)
	}
	other := wantKept(t, "the graph beside it", p, 1)
	if !sameGraph(other, withBlocks(beside(), beside().Blocks[0], block(back(0)), block(back(3), cast(2, 3), call(0, 0, 1, 3, 1)))) {
		t.Errorf("%v becomes %v", p[1], other)
	}
	wantKept(t, "beside one that is told", with(p, 1, other), 0)
	wantKept(t, "beside one that is told", with(p, 0, got), 1)
}

// Each thing of a graph is as it was, whatever it is.
func TestAllElseIsAsItWas(t *testing.T) {
	g := whole()
	for _, name := range []string{"", "f", "whole", "ein Name\x00\xff"} {
		for _, params := range [][]int{nil, {3}, {15, 0, 1}, {9, 8, 7, 6, 5, 4, 3, 2}} {
			for _, arrays := range [][]api.Array{g.Arrays, slices.Concat(g.Arrays, g.Arrays, []api.Array{{Type: api.Bool, Size: 1}})} {
				g.Name, g.Params, g.Arrays = name, params, arrays
				h := wantApplied(t, "a whole graph", []api.Graph{g, typed(api.I64, api.U8)}, 0)
				if h.Name != name || !slices.Equal(h.Params, params) || h.Result != api.I64 || !slices.Equal(h.Vars, g.Vars) || !slices.Equal(h.Arrays, arrays) || len(h.Blocks) != 6 {
					t.Errorf("%v becomes %v", g, h)
				}
				for i, b := range h.Blocks {
					if b.Term != g.Blocks[i].Term {
						t.Errorf("the end %v becomes %v", g.Blocks[i].Term, b.Term)
					}
				}
			}
		}
	}
}

// typed is a graph that may be called with words of these types, and tells one of another type.
func typed(result api.Type, params ...api.Type) api.Graph {
	return api.Graph{Params: counted(1, len(params)+1), Result: result, Vars: slices.Concat([]api.Type{result}, params), Blocks: []api.Block{block(back(0), show(0))}}
}

// What is an instruction's stays: its operation, its bits, what it names, its arguments in their order.
func TestFieldsOfInstructions(t *testing.T) {
	for o := api.OpAdd; o <= api.OpShr; o++ {
		g := numbers(2, 4, block(back(2), op(o, 2, 1, 0), op(o, 3, 0, 1)))
		wantBecome(t, "an operation", g, block(back(2), op(o, 2, 1, 0)))
	}
	for o := api.OpEq; o <= api.OpGe; o++ {
		g := numbers(2, 2, block(branch(2, 1, 2), op(o, 2, 1, 0), op(o, 3, 0, 1)), block(back(0)), block(back(1)))
		g.Vars = append(g.Vars, api.Bool, api.Bool)
		wantBecome(t, "a comparison", g, block(branch(2, 1, 2), op(o, 2, 1, 0)), block(back(0)), block(back(1)))
	}
	for _, typ := range types {
		for _, w := range wordsOf(typ) {
			g := graphOf(typ, 0, 2, block(back(1), number(0, w), number(1, w)))
			wantBecome(t, "a constant", g, block(back(1), number(1, w)))
			g = graphOf(typ, 1, 3, block(back(1), copyOf(1, 0), copyOf(2, 0)))
			wantBecome(t, "a copy", g, block(back(1), copyOf(1, 0)))
		}
		for _, from := range types[1:] {
			if typ == api.Bool {
				continue
			}
			g := graphOf(typ, 0, 2, block(back(1), cast(0, 2), cast(1, 2)))
			g.Vars, g.Params = append(g.Vars, from), row(2)
			wantBecome(t, "a cast", g, block(back(1), cast(1, 2)))
		}
	}
	g := numbers(1, 5, block(back(4), load(1, 0, 0), load(2, 1, 0), store(1, 0, 0), load(3, 1, 0), load(4, 0, 0), store(0, 3, 0), wipe(1), wipe(0)))
	g.Arrays = append(g.Arrays, api.Array{Type: api.I64, Size: 7})
	wantBecome(t, "arrays", g, block(back(4), store(1, 0, 0), load(3, 1, 0), load(4, 0, 0), store(0, 3, 0), wipe(1), wipe(0)))
}

// What acts stays, however often it stands there and whether anything else does, though its Dst is 0 and the variable 0 not needed.
func TestWhatActsStays(t *testing.T) {
	for _, l := range [][]api.Ins{
		{wipe(0)}, {wipe(0), wipe(0)}, {show(1), show(1)}, {store(0, 1, 2), store(0, 1, 2)}, {call(0, 0), call(0, 0)}, {call(0, 3), call(0, 3)},
		{wipe(0), store(0, 1, 1), wipe(0), store(0, 1, 1)}, {call(0, 3), wipe(0), show(2), store(0, 2, 1)},
	} {
		g := numbers(0, 4, block(trap(3), l...))
		wantBecome(t, "what acts", g, g.Blocks...)
		mixed := slices.Concat([]api.Ins{number(0, 3)}, l, []api.Ins{number(0, 4), load(3, 0, 0)}, l, []api.Ins{copyOf(3, 0), number(3, 1)})
		wantBecome(t, "what acts, and what does not", withBlocks(g, block(jump(1), mixed...), block(trap(3), mixed...)), block(jump(1), slices.Concat(l, l)...), block(trap(3), slices.Concat(l, l)...))
	}
	g := truths(1, 1, block(back(0), show(0), wipe(0)))
	wantBecome(t, "variables that are needed", g, g.Blocks...)
}

// Blocks of which nothing stays are there still, and those that were empty.
func TestEmptyBlocksStay(t *testing.T) {
	g := truths(1, 3,
		block(branch(0, 3, 1), number(1, 1)),
		block(jump(2)),
		block(jump(3), not(1, 0), not(2, 1)),
		block(branch(0, 4, 4), phi(2, 1, 0)),
		block(jump(5)),
		block(back(0)),
		block(jump(6), copyOf(1, 2)),
	)
	var ends []api.Block
	for _, b := range g.Blocks {
		ends = append(ends, block(b.Term))
	}
	wantBecome(t, "all goes", g, ends...)
	wantBecome(t, "all is gone", withBlocks(g, ends...), ends...)
}

// Phis that stay stand at the head still, with their arguments in their order, whichever of them goes.
func TestPhisThatStay(t *testing.T) {
	for mask := range 16 {
		g := truths(2, 8, block(branch(0, 1, 2), number(7, 1)), block(jump(3)), block(jump(3)), block(branch(1, 3, 4), phi(2, 0, 1, 2), phi(3, 1, 0, 3), phi(4, 7, 7, 1), phi(5, 0, 7, 6), not(6, 5)), block(back(0)))
		want := copied(g)
		for i := range 4 {
			if mask>>i&1 == 1 {
				g.Blocks[4].Ins = append(g.Blocks[4].Ins, show(2+i))
			}
		}
		want.Blocks[4] = g.Blocks[4]
		want.Blocks[3].Ins = slices.DeleteFunc(want.Blocks[3].Ins, func(x api.Ins) bool { return x.Dst < 6 && mask>>(x.Dst-2)&1 == 0 || x.Dst == 6 && mask < 8 })
		if mask < 4 {
			want.Blocks[0].Ins = nil
		}
		h := wantKept(t, "some phis", alone(g), 0)
		if !sameGraph(h, want) || !ssa.Is(h) {
			t.Errorf("of the phis %b: %v becomes %v", mask, g, h)
		}
	}
}

// Nothing goes, everything goes, some of it goes: what is told is told again the same.
func TestToldAgain(t *testing.T) {
	for _, g := range []api.Graph{whole(), withBlocks(whole(), block(trap(1))), withBlocks(whole(), block(back(0), show(0)))} {
		p := []api.Graph{g, beside()}
		h := wantKept(t, "once", p, 0)
		if again := wantKept(t, "again", with(p, 0, h), 0); !sameGraph(h, again) || len(h.Vars) != len(g.Vars) {
			t.Errorf("%v becomes %v, and then %v", g, h, again)
		}
	}
}

// Graphs of a program are told by their places; the others play no part but that calls are right.
func TestWhichGraph(t *testing.T) {
	var p []api.Graph
	for i := range 64 {
		p = append(p, numbers(1, 3, block(back(0), number(1, uint64(i)), number(2, 64), call((i+1)%64, 1, 0), show(2))))
		p[i].Name = string(rune('a' + i))
	}
	for f := range p {
		g := wantApplied(t, "one of 64", p, f)
		if !sameGraph(g, withBlocks(p[f], block(back(0), p[f].Blocks[0].Ins[1:]...))) {
			t.Errorf("%v becomes %v", p[f], g)
		}
	}
}
