package ssa_test

import (
	"slices"
	"testing"

	"smithy/api"
	"smithy/ssa"
)

// watched is a graph that shows all its variables at the head of each block and at its end.
func watched(g api.Graph) api.Graph {
	g = copied(g)
	var all []api.Ins
	for v := range g.Vars {
		all = append(all, show(v))
	}
	for i, b := range g.Blocks {
		g.Blocks[i].Ins = slices.Concat(all, b.Ins, all)
	}
	return g
}

// P13.3: every variable has one variable of the built graph wherever it is: what all are is shown the same.
func TestEveryVariableAtEachPlace(t *testing.T) {
	m := maker{odds: firstOdd}
	shown := 0
	for range 1200 {
		p, f := m.program()
		p[f] = watched(p[f])
		g := wantKept(t, "all is shown", p, f)
		wantFewest(t, p[f], g)
		shown += len(wantSameRun(t, "all is shown", p, with(p, f, g), f, wordsFor(p[f], 3), 100, 3).Shows)
	}
	if shown < 20000 {
		t.Errorf("%d were shown", shown)
	}
}

// P13.3: what has been built, and has no phis, is kept when it is built again.
func TestBuiltAgain(t *testing.T) {
	m := maker{odds: firstOdd}
	again := 0
	for range 3000 {
		p, f := m.program()
		g := wantBuilt(t, "once", p, f)
		q := with(p, f, g)
		if countPhis(g) > 0 {
			wantRefused(t, "again, with phis", api.ErrShape, q, f)
			continue
		}
		again++
		h := wantKept(t, "again", q, f)
		if countPhis(h) > 0 || len(h.Blocks) != len(g.Blocks) {
			t.Fatalf("%v is built again as %v", g, h)
		}
		for _, limit := range [][2]int{{50, 5}, {4, 2}} {
			wantSameRun(t, "again", p, with(p, f, h), f, wordsFor(p[f], 5), limit[0], limit[1])
		}
	}
	if again < 300 {
		t.Errorf("%d were built again", again)
	}
}

// All graphs of a program may be built, one behind the other: each is kept in what became of the others.
func TestAllGraphsOfAProgram(t *testing.T) {
	m := maker{odds: firstOdd}
	for range 600 {
		p := make([]api.Graph, 1+m.below(4))
		for i := range p {
			p[i] = m.head()
		}
		for i := range p {
			m.fill(p, &p[i], false)
		}
		q := slices.Clone(p)
		for _, f := range m.shuffled(len(p)) {
			q[f] = wantBuilt(t, "one of several", q, f)
		}
		for f := range p {
			for _, limit := range [][2]int{{60, 6}, {9, 3}, {2, 9}} {
				wantSameRun(t, "all of several", p, q, f, wordsFor(p[f], m.number()), limit[0], limit[1])
			}
		}
	}
}

// What becomes of one graph hangs on what others are only as far as that is right.
func TestOthersPlayNoPart(t *testing.T) {
	m := maker{odds: firstOdd}
	for range 500 {
		p, f := m.program()
		g := wantBuilt(t, "beside others", p, f)
		other := copiedAll(p)
		for i := range other {
			if i != f {
				other[i].Blocks = []api.Block{block(trap(1))}
			}
		}
		if h, e := ssa.Build(other, f); e != api.OK || !sameGraph(g, h) {
			t.Fatalf("%v becomes %v beside others, %v", g, h, e)
		}
	}
}
