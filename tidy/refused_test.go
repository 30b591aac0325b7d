package tidy_test

import (
	"slices"
	"testing"

	"smithy/api"
	"smithy/graph"
	"smithy/ssa"
	"smithy/tidy"
)

// once is a graph that is set once, twice is right but not set once, wrong is not right.
func once() api.Graph { return truths(1, 2, block(branch(0, 1, 1), copyOf(1, 0)), block(back(1))) }

func twice() api.Graph {
	return truths(1, 2, block(jump(1), number(1, 0)), block(back(1), number(1, 1)))
}

func wrong() api.Graph { return truths(1, 2, block(jump(0))) }

func TestProgramsThatAreNotRight(t *testing.T) {
	for _, f := range append(strays(2), 0, 1) {
		wantRefused(t, "a graph that is not right", api.ErrShape, []api.Graph{wrong(), once()}, f)
		wantRefused(t, "another graph that is not right", api.ErrShape, []api.Graph{once(), wrong()}, f)
		wantRefused(t, "a graph without blocks", api.ErrShape, []api.Graph{once(), {}}, f)
		wantRefused(t, "a wrong one beside one that is not set once", api.ErrShape, []api.Graph{twice(), wrong()}, f)
	}
	// By itself it is set once; in the program it is not right.
	stray := once()
	stray.Blocks[1].Ins = []api.Ins{call(2, 1, 0)}
	stray.Blocks[0].Ins = nil
	wantRefused(t, "a call of what is not there", api.ErrShape, []api.Graph{stray, once()}, 0)
	wantRefused(t, "a call of what is not there, by another one", api.ErrShape, []api.Graph{stray, once()}, 1)
	stray.Blocks[1].Ins = []api.Ins{call(1, 1)}
	wantRefused(t, "a call with too few arguments", api.ErrShape, []api.Graph{stray, once()}, 0)
	stray.Blocks[1].Ins = []api.Ins{call(1, 1, 0)}
	wantKept(t, "a call that is right", []api.Graph{stray, once()}, 0)
	wantKept(t, "one that is called", []api.Graph{stray, once()}, 1)
}

func TestTooManyGraphs(t *testing.T) {
	p := slices.Repeat([]api.Graph{once()}, 65)
	for _, f := range append(strays(65), 0, 64) {
		wantRefused(t, "65 graphs", api.ErrShape, p, f)
		wantRefused(t, "65 of nothing", api.ErrShape, make([]api.Graph, 65), f)
		wantRefused(t, "65 that are not set once", api.ErrShape, slices.Repeat([]api.Graph{twice()}, 65), f)
	}
	for _, f := range []int{0, 33, 63} {
		wantApplied(t, "64 graphs", p[:64], f)
	}
	wantRefused(t, "64 graphs", api.ErrArg, p[:64], 64)
}

func TestNoSuchGraph(t *testing.T) {
	for n := range 4 {
		for _, f := range strays(n) {
			wantRefused(t, "no such graph", api.ErrArg, slices.Repeat([]api.Graph{once()}, n), f)
			wantRefused(t, "no such graph, none set once", api.ErrArg, slices.Repeat([]api.Graph{twice()}, n), f)
		}
	}
	wantRefused(t, "none at all", api.ErrArg, nil, 0)
	wantRefused(t, "an empty list", api.ErrArg, []api.Graph{}, 0)
}

func TestGraphsThatAreNotSetOnce(t *testing.T) {
	for what, g := range notOnce() {
		if e, _ := graph.Check(alone(g)); e != api.OK {
			t.Fatalf("%s: Check tells %d", what, e)
		}
		wantRefused(t, what, api.ErrShape, alone(g), 0)
		wantRefused(t, what, api.ErrShape, []api.Graph{once(), g}, 1)
		wantRefused(t, what, api.ErrArg, alone(g), 1)
		wantRefused(t, what, api.ErrArg, alone(g), -1)
		wantKept(t, "beside one that is not set once", []api.Graph{once(), g}, 0)
	}
}

// bend changes one thing of a graph so that it is mostly right still.
func (m *maker) bend(g *api.Graph) {
	b := &g.Blocks[m.below(len(g.Blocks))]
	at := len(b.Ins)
	if at > 0 {
		at = m.below(at)
	}
	switch what := m.below(11); {
	case what < 3 && len(g.Blocks) > 1:
		b.Term.To[m.below(2)] = 1 + m.below(len(g.Blocks)-1)
	case what == 3 && len(g.Blocks) > 1:
		b.Term = jump(1 + m.below(len(g.Blocks)-1))
	case what == 4 && len(g.Blocks) > 1:
		i := m.below(len(g.Blocks))
		g.Blocks = append(g.Blocks, block(jump(1+m.below(len(g.Blocks)-1))))
		if e := &g.Blocks[i].Term; ends(*e) > 0 {
			e.To[m.below(ends(*e))] = len(g.Blocks) - 1
		}
	case what == 5 && (b.Term.Kind == api.TermBranch || b.Term.Kind == api.TermReturn):
		b.Term.Arg = m.of(*g, g.Vars[b.Term.Arg])
	case what == 6 && m.often(30):
		g.Blocks = append(g.Blocks, block(trap(1)))
	case at == len(b.Ins):
	case what == 7:
		other := m.below(len(b.Ins))
		b.Ins[at], b.Ins[other] = b.Ins[other], b.Ins[at]
	case what == 8:
		b.Ins = slices.Delete(b.Ins, at, at+1)
	case what == 9 && sets(b.Ins[at]):
		b.Ins[at].Dst = m.of(*g, g.Vars[b.Ins[at].Dst])
	case len(b.Ins[at].Args) > 0:
		i := m.below(len(b.Ins[at].Args))
		b.Ins[at].Args[i] = m.of(*g, g.Vars[b.Ins[at].Args[i]])
	}
}

// The errors of bent programs, in their order.
func TestBentPrograms(t *testing.T) {
	m := maker{odds: firstOdd}
	count := map[string]int{}
	for range 6000 {
		p, f := m.program()
		for range m.below(3) {
			m.bend(&p[pick(&m.odds, f, f, m.below(len(p)))])
		}
		if m.often(20) {
			f = m.below(len(p)+2) - 1
		}
		want, why := api.OK, "none"
		if e, _ := graph.Check(p); e != api.OK {
			want, why = api.ErrShape, "not right"
		} else if f < 0 || f >= len(p) {
			want, why = api.ErrArg, "no graph"
		} else if !ssa.Is(p[f]) {
			want, why = api.ErrShape, "not set once"
		}
		count[why]++
		if want == api.OK {
			wantKept(t, "bent", p, f)
		} else {
			wantRefused(t, "bent", want, p, f)
		}
		if t.Failed() {
			return
		}
	}
	for _, why := range []string{"none", "not right", "no graph", "not set once"} {
		if count[why] < 200 {
			t.Errorf("%v", count)
		}
	}
}

// What was refused leaves nothing behind.
func TestRefusedInBetween(t *testing.T) {
	want := wantApplied(t, "at first", alone(once()), 0)
	for range 3 {
		tidy.Apply(alone(twice()), 0)
		tidy.Apply(alone(wrong()), 0)
		tidy.Apply(nil, 0)
		if g := wantApplied(t, "again", alone(once()), 0); !sameGraph(g, want) {
			t.Errorf("%v becomes %v; it became %v", once(), g, want)
		}
	}
}
