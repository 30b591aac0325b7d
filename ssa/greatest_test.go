package ssa_test

import (
	"slices"
	"testing"

	"smithy/api"
	"smithy/ssa"
)

// most is how many variables a graph may have.
const most = 1 << 20

// settings is a row of that many settings of seven truths, of which the first one alone is asked, behind all.
func settings(n int) []api.Ins {
	var l []api.Ins
	for i := range n {
		l = append(l, number(i%7, 1))
	}
	return l
}

// A graph may have 2^20 variables, and so may what is built of it: what is not used takes none.
func TestGreatestGraphs(t *testing.T) {
	wantBuilt(t, "variables that nobody uses", []api.Graph{truths(8, most, block(back(most-1)))}, 0)
	g, e := ssa.Build([]api.Graph{truths(0, 7, block(back(0), settings(most)...))}, 0)
	if e != api.OK || len(g.Vars) != most || !ssa.Is(g) {
		t.Errorf("as many settings as may be: %d variables, %d", len(g.Vars), e)
	}
}

// Where there are more settings than there may be variables, some that nobody needs are left out.
func TestMoreSettingsThanVariables(t *testing.T) {
	for what, g := range map[string]api.Graph{
		"one setting over":              truths(0, 7, block(back(0), settings(most+1)...)),
		"as many and a parameter":       truths(1, 7, block(back(0), settings(most)...)),
		"as many, and one that is told": truths(0, 8, block(jump(1), show(7)), block(back(0), settings(most)...)),
		"as many, and one that meets":   truths(1, 8, block(branch(0, 1, 2), settings(most)...), block(jump(2), not(7, 7)), block(back(7), show(0))),
		"in a loop":                     truths(1, 8, block(jump(1), not(7, 0)), block(branch(7, 1, 2), append(settings(most), not(7, 7))...), block(back(7))),
	} {
		wantKept(t, what, []api.Graph{g}, 0)
	}
}

// Whatever else a graph does is kept where settings are left out.
func TestMadeProgramsWithTooManySettings(t *testing.T) {
	m := maker{odds: firstOdd}
	for range 8 {
		p, f := m.program()
		// The new variable is set in one block again and again, by itself: none of that is asked elsewhere.
		idle := len(p[f].Vars)
		p[f].Vars = append(p[f].Vars, api.Bool)
		i := pick(&m.odds, reachedIn(p[f])...)
		b := p[f].Blocks[i]
		p[f].Blocks[i].Ins = slices.Concat(b.Ins[:len(b.Ins)/2], slices.Repeat([]api.Ins{not(idle, idle)}, most+1), b.Ins[len(b.Ins)/2:])
		g := wantBuilt(t, "too many settings", p, f)
		if len(g.Vars) > 100 {
			t.Errorf("%d variables", len(g.Vars))
		}
		for seed := range uint64(2) {
			wantSameRun(t, "too many settings", p, with(p, f, g), f, wordsFor(p[f], seed), 12, 2)
		}
	}
}

// reachedIn is the blocks of a graph that are reached.
func reachedIn(g api.Graph) []int {
	is := reached(g, -1)
	return slices.DeleteFunc(counted(0, len(is)), func(i int) bool { return !is[i] })
}

// What needs more variables than a graph may have can't be built.
func TestTooManyVariables(t *testing.T) {
	nest := sort{block: nested}
	for what, g := range map[string]api.Graph{
		"each is asked by the next one": truths(1, 1, block(back(0), slices.Repeat([]api.Ins{not(0, 0)}, most)...)),
		"each is shown":                 truths(1, 2, block(back(0), slices.Repeat([]api.Ins{number(1, 1), show(1)}, most)...)),
		"each is told by a call":        truths(1, 2, block(back(0), slices.Repeat([]api.Ins{call(0, 1, 0)}, most)...)),
		"loops in loops of phis":        nest.made(20000, 1000),
	} {
		if h, e := ssa.Build([]api.Graph{g}, 0); e != api.ErrLong || !isNothing(h) {
			t.Errorf("%s: %d variables, %d", what, len(h.Vars), e)
		}
	}
	g := truths(1, 2, block(back(0), slices.Repeat([]api.Ins{call(0, 1, 0)}, most-1)...))
	if h, e := ssa.Build([]api.Graph{g}, 0); e != api.OK || len(h.Vars) != most || !ssa.Is(h) {
		t.Errorf("one call fewer: %d variables, %d", len(h.Vars), e)
	}
}
