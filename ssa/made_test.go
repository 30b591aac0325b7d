package ssa_test

import (
	"testing"

	"smithy/api"
	"smithy/graph"
	"smithy/ssa"
)

// All graphs of three blocks made of these parts, which ask and set two variables.
func TestAllSmallGraphs(t *testing.T) {
	entries := []api.Block{block(jump(1)), block(jump(2), number(0, 1)), block(branch(0, 1, 2)), block(branch(1, 2, 1), number(1, 1)), block(branch(1, 1, 1), not(0, 1))}
	inner := [][]api.Ins{nil, {show(0)}, {number(0, 1)}, {not(1, 0)}, {constant(0), show(1)}, {not(0, 1), copyOf(1, 0)}}
	endings := []api.Term{jump(1), jump(2), branch(0, 1, 2), branch(1, 2, 2), back(0), back(1), trap(1)}
	var bodies []api.Block
	for _, ins := range inner {
		for _, end := range endings {
			bodies = append(bodies, block(end, ins...))
		}
	}
	for _, entry := range entries {
		for _, one := range bodies {
			for _, two := range bodies {
				for params := range 3 {
					g := truths(params, 2, entry, one, two)
					h := wantKept(t, "a small graph", []api.Graph{g}, 0)
					wantFewest(t, g, h)
					wantIs(t, "a small graph", isOnce(g), g)
				}
			}
		}
	}
}

// wantFewest asks that a graph was built with no more phis than its settings need.
func wantFewest(t *testing.T, was, g api.Graph) {
	t.Helper()
	if n := fewest(was); countPhis(g) != n {
		t.Fatalf("%v is built as %v, with %d phis; want %d", was, g, countPhis(g), n)
	}
}

func TestMadePrograms(t *testing.T) {
	m := maker{odds: firstOdd}
	phis, built := 0, 0
	for range 4000 {
		p, f := m.program()
		if e, at := graph.Check(p); e != api.OK {
			t.Fatalf("%v: Check tells %d, %d", p, e, at)
		}
		g := wantKept(t, "a made program", p, f)
		wantFewest(t, p[f], g)
		wantIs(t, "a made graph", isOnce(p[f]), p[f])
		phis += countPhis(g)
		built++
	}
	if phis < built {
		t.Errorf("%d phis in %d graphs", phis, built)
	}
}

// Some with hardly any variable or block, some with more variables than a word has bits.
func TestMadeGraphsOfTruths(t *testing.T) {
	m := maker{odds: firstOdd}
	for range 6000 {
		g := m.truths(1+m.below(14), 1+m.below(6), pick(&m.odds, 10, 30, 60))
		wantFewest(t, g, wantKept(t, "truths", []api.Graph{g}, 0))
	}
	for range 200 {
		g := m.truths(1+m.below(30), 60+m.below(90), pick(&m.odds, 10, 40, 80))
		wantFewest(t, g, wantKept(t, "many truths", []api.Graph{g}, 0))
	}
}

// Great graphs, of which no word is asked that takes long.
func TestGreatMadeGraphs(t *testing.T) {
	m := maker{odds: firstOdd}
	for range 30 {
		g := m.truths(1+m.below(2000), 1+m.below(300), pick(&m.odds, 5, 30, 80))
		p := []api.Graph{g}
		h, e := ssa.Build(p, 0)
		if e != api.OK || !ssa.Is(h) || len(unneeded(h)) > 0 || !sameFace(g, h) {
			t.Fatalf("a graph of %d blocks and %d variables is built otherwise, %d", len(g.Blocks), len(g.Vars), e)
		}
		for seed := range uint64(3) {
			wantSameRun(t, "a great graph", p, []api.Graph{h}, 0, wordsFor(g, seed), 3000, 3)
		}
		if len(g.Vars) < 40 {
			wantFewest(t, g, h)
		}
	}
}
