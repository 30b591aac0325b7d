package dce_test

import (
	"slices"
	"testing"

	"smithy/api"
	"smithy/graph"
)

// right is a graph that is right, wrong one that is not.
func right() api.Graph { return truths(1, 2, block(branch(0, 1, 1), number(1, 1)), block(back(0))) }

func wrong() api.Graph { return truths(1, 2, block(jump(0))) }

func TestProgramsThatAreNotRight(t *testing.T) {
	for _, f := range append(strays(2), 0, 1) {
		wantRefused(t, "a graph that is not right", api.ErrShape, []api.Graph{wrong(), right()}, f)
		wantRefused(t, "another graph that is not right", api.ErrShape, []api.Graph{right(), wrong()}, f)
		wantRefused(t, "a graph without blocks", api.ErrShape, []api.Graph{right(), {}}, f)
		wantRefused(t, "none that is right", api.ErrShape, []api.Graph{{}, wrong()}, f)
	}
	wantApplied(t, "both are right", []api.Graph{right(), right()}, 0)
	wantApplied(t, "both are right", []api.Graph{right(), right()}, 1)
}

// By itself a graph is right whatever its calls name; in the program it is not.
func TestCallsThatDoNotFit(t *testing.T) {
	stray := right()
	calls := func(x api.Ins) []api.Graph {
		stray.Blocks[1].Ins = []api.Ins{x}
		return []api.Graph{stray, right(), numbers(1, 1, block(back(0)))}
	}
	for what, x := range map[string]api.Ins{"what is not there": call(3, 1, 0), "too few arguments": call(1, 1), "too many arguments": call(1, 1, 0, 0), "another type of what is told": call(2, 1, 0)} {
		p := calls(x)
		wantNeeded(t, what, p[0], append(slices.Clone(x.Args), 0)...)
		for f := range p {
			wantRefused(t, what, api.ErrShape, p, f)
		}
		wantRefused(t, what, api.ErrShape, p, 3)
	}
	p := calls(call(1, 1, 0))
	for f := range p {
		wantKept(t, "a call that fits", p, f)
	}
	if len(stray.Blocks[1].Ins) != 1 {
		t.Errorf("%v", stray)
	}
}

func TestTooManyGraphs(t *testing.T) {
	p := slices.Repeat([]api.Graph{right()}, 65)
	for _, f := range append(strays(65), 0, 64) {
		wantRefused(t, "65 graphs", api.ErrShape, p, f)
		wantRefused(t, "65 of nothing", api.ErrShape, make([]api.Graph, 65), f)
		wantRefused(t, "200 graphs", api.ErrShape, slices.Repeat(p, 3), f)
	}
	for _, f := range []int{0, 33, 63} {
		wantApplied(t, "64 graphs", p[:64], f)
	}
	wantRefused(t, "64 graphs", api.ErrArg, p[:64], 64)
}

func TestNoSuchGraph(t *testing.T) {
	for n := range 4 {
		for _, f := range strays(n) {
			wantRefused(t, "no such graph", api.ErrArg, slices.Repeat([]api.Graph{right()}, n), f)
		}
	}
	for f := range 3 {
		wantRefused(t, "none at all", api.ErrArg, nil, f)
		wantRefused(t, "an empty list", api.ErrArg, []api.Graph{}, f)
	}
}

// Graphs that are not set once are as good as others, and such with phis.
func TestAnyRightGraphIsTaken(t *testing.T) {
	g := truths(1, 3, block(branch(0, 1, 1), number(1, 1), number(1, 0)), block(branch(1, 1, 2), phi(1, 0, 1), phi(2, 1, 2), not(1, 1)), block(back(0)), block(jump(2)))
	wantKept(t, "set again and again", alone(g), 0)
}

// The errors of wrecked programs, in their order.
func TestWreckedPrograms(t *testing.T) {
	m := maker{odds: firstOdd}
	count := map[api.Errno]int{}
	for range 12000 {
		p := m.program()
		f := m.below(len(p))
		for range m.below(3) {
			m.wreck(&p[m.below(len(p))])
		}
		if m.often(20) {
			f = pick(&m.odds, strays(len(p))...)
		}
		want := api.OK
		if e, _ := graph.Check(p); e != api.OK {
			want = api.ErrShape
		} else if f < 0 || f >= len(p) {
			want = api.ErrArg
		}
		count[want]++
		if want == api.OK {
			wantKept(t, "wrecked, and right still", p, f)
		} else {
			wantRefused(t, "wrecked", want, p, f)
		}
		if t.Failed() {
			return
		}
	}
	if count[api.OK] < 2000 || count[api.ErrArg] < 500 || count[api.ErrShape] < 2000 {
		t.Errorf("%v", count)
	}
}

// What was refused leaves nothing behind.
func TestRefusedInBetween(t *testing.T) {
	want := wantApplied(t, "at first", alone(right()), 0)
	for range 3 {
		wantRefused(t, "a wrong one", api.ErrShape, alone(wrong()), 0)
		wantRefused(t, "none", api.ErrArg, nil, 0)
		wantNone(t, "a wrong one", wrong())
		if g := wantApplied(t, "again", alone(right()), 0); !sameGraph(g, want) {
			t.Errorf("%v becomes %v; it became %v", right(), g, want)
		}
	}
}
