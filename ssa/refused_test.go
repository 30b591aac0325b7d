package ssa_test

import (
	"slices"
	"testing"

	"smithy/api"
	"smithy/graph"
)

// plain is a graph without phis, joined one with a phi, wrong one that is not right.
func plain() api.Graph { return truths(1, 2, block(branch(0, 1, 1)), block(back(0))) }

func withPhi() api.Graph { return truths(1, 2, block(jump(1)), block(back(1), phi(1, 0))) }

func wrong() api.Graph { return truths(1, 2, block(jump(0))) }

func TestProgramsThatAreNotRight(t *testing.T) {
	for _, f := range append(strays(2), 0, 1) {
		wantRefused(t, "a graph that is not right", api.ErrShape, []api.Graph{wrong(), plain()}, f)
		wantRefused(t, "another graph that is not right", api.ErrShape, []api.Graph{plain(), wrong()}, f)
		wantRefused(t, "a graph without blocks", api.ErrShape, []api.Graph{plain(), {}}, f)
		wantRefused(t, "a wrong one beside one with a phi", api.ErrShape, []api.Graph{withPhi(), wrong()}, f)
	}
	stray := plain()
	stray.Blocks[0].Ins = []api.Ins{call(2, 1, 0)}
	wantRefused(t, "a call of what is not there", api.ErrShape, []api.Graph{stray, plain()}, 0)
	stray.Blocks[0].Ins = []api.Ins{call(1, 1)}
	wantRefused(t, "a call with too few arguments", api.ErrShape, []api.Graph{stray, plain()}, 0)
	wantRefused(t, "a loop back to the entry", api.ErrShape, []api.Graph{truths(1, 1, block(branch(0, 1, 1)), block(branch(0, 0, 1)))}, 0)
	wantRefused(t, "an entry that leads to itself", api.ErrShape, []api.Graph{truths(1, 1, block(jump(0)))}, 0)
}

func TestTooManyGraphs(t *testing.T) {
	p := slices.Repeat([]api.Graph{plain()}, 65)
	for _, f := range append(strays(65), 0, 64) {
		wantRefused(t, "65 graphs", api.ErrShape, p, f)
		wantRefused(t, "65 of nothing", api.ErrShape, make([]api.Graph, 65), f)
		wantRefused(t, "65 with phis", api.ErrShape, slices.Repeat([]api.Graph{withPhi()}, 65), f)
	}
	for _, f := range []int{0, 33, 63} {
		wantKept(t, "64 graphs", p[:64], f)
	}
	wantRefused(t, "64 graphs", api.ErrArg, p[:64], 64)
}

func TestNoSuchGraph(t *testing.T) {
	for n := range 4 {
		for _, f := range strays(n) {
			wantRefused(t, "no such graph", api.ErrArg, slices.Repeat([]api.Graph{plain()}, n), f)
			wantRefused(t, "no such graph, phis in all", api.ErrArg, slices.Repeat([]api.Graph{withPhi()}, n), f)
		}
	}
	wantRefused(t, "none at all", api.ErrArg, nil, 0)
	wantRefused(t, "an empty list", api.ErrArg, []api.Graph{}, 0)
}

func TestPhis(t *testing.T) {
	wantRefused(t, "a phi", api.ErrShape, []api.Graph{withPhi()}, 0)
	wantRefused(t, "a phi that nobody asks", api.ErrShape, []api.Graph{truths(1, 2, block(jump(1)), block(back(0), phi(1, 0)))}, 0)
	wantRefused(t, "a phi of a block that is not reached", api.ErrShape, []api.Graph{truths(1, 2, block(back(0)), block(jump(1), phi(1, 0)))}, 0)
	wantRefused(t, "a phi without arguments", api.ErrShape, []api.Graph{truths(1, 2, block(back(0)), block(back(0), phi(1)))}, 0)
	wantRefused(t, "a phi in the last one of many blocks", api.ErrShape, []api.Graph{truths(1, 2, append(slices.Repeat([]api.Block{block(jump(9), show(0))}, 9), block(back(0), phi(1, counted(0, 9)[:0]...)))...)}, 0)
	p := []api.Graph{withPhi(), plain(), withPhi()}
	wantKept(t, "phis in others", p, 1)
	wantRefused(t, "phis", api.ErrShape, p, 0)
	wantRefused(t, "phis", api.ErrShape, p, 2)
}

// Bent programs are refused just where Check refuses them, or a phi stands there.
func TestBentPrograms(t *testing.T) {
	m := maker{odds: firstOdd}
	count := map[api.Errno]int{}
	for range 6000 {
		p, _ := m.program()
		for range m.below(2) {
			m.bend(&p[m.below(len(p))])
		}
		f := m.below(len(p)+2) - 1
		want := api.OK
		if e, _ := graph.Check(p); e != api.OK {
			want = api.ErrShape
		} else if f < 0 || f == len(p) {
			want = api.ErrArg
		} else if countPhis(p[f]) > 0 {
			want = api.ErrShape
		}
		count[want]++
		if want == api.OK {
			wantKept(t, "a bent program", p, f)
		} else {
			wantRefused(t, "a bent program", want, p, f)
		}
	}
	if count[api.OK] < 1000 || count[api.ErrArg] < 1000 || count[api.ErrShape] < 1000 {
		t.Errorf("%v", count)
	}
}
