package sccp_test

import (
	"slices"
	"testing"

	"smithy/api"
	"smithy/graph"
	"smithy/sccp"
	"smithy/ssa"
)

// once is a graph that is set once, twice is right but not set once, wrong is not right.
func once() api.Graph { return truths(1, 2, block(branch(0, 1, 1)), block(back(0))) }

func twice() api.Graph {
	return truths(1, 2, block(jump(1), number(1, 0)), block(back(1), number(1, 1)))
}

func wrong() api.Graph { return truths(1, 2, block(jump(0))) }

func TestProgramsThatAreNotRight(t *testing.T) {
	for _, f := range append(strays(2), 0, 1) {
		wantRefused(t, "a graph that is not right", api.ErrShape, []api.Graph{wrong(), once()}, f)
		wantRefused(t, "another graph that is not right", api.ErrShape, []api.Graph{once(), wrong()}, f)
		wantRefused(t, "a graph without blocks", api.ErrShape, []api.Graph{once(), {}}, f)
		wantRefused(t, "a wrong one beside one that is not set once", api.ErrShape, []api.Graph{twice(), wrong()}, f)
	}
	// By itself it is set once; in the program it is not right.
	stray := once()
	stray.Blocks[0].Ins = []api.Ins{call(2, 1, 0)}
	wantRefused(t, "a call of what is not there", api.ErrShape, []api.Graph{stray, once()}, 0)
	wantRefused(t, "a call of what is not there, by another one", api.ErrShape, []api.Graph{stray, once()}, 1)
	stray.Blocks[0].Ins = []api.Ins{call(1, 1)}
	wantRefused(t, "a call with too few arguments", api.ErrShape, []api.Graph{stray, once()}, 0)
	stray.Blocks[0].Ins = []api.Ins{call(1, 1, 0)}
	wantSolved(t, "a call that is right", []api.Graph{stray, once()}, 0)
}

func TestTooManyGraphs(t *testing.T) {
	p := slices.Repeat([]api.Graph{once()}, 65)
	for _, f := range append(strays(65), 0, 64) {
		wantRefused(t, "65 graphs", api.ErrShape, p, f)
		wantRefused(t, "65 of nothing", api.ErrShape, make([]api.Graph, 65), f)
		wantRefused(t, "65 that are not set once", api.ErrShape, slices.Repeat([]api.Graph{twice()}, 65), f)
	}
	for _, f := range []int{0, 33, 63} {
		wantSolved(t, "64 graphs", p[:64], f)
	}
	wantRefused(t, "64 graphs", api.ErrArg, p[:64], 64)
}

func TestNoSuchGraph(t *testing.T) {
	for n := range 4 {
		for _, f := range strays(n) {
			wantRefused(t, "no such graph", api.ErrArg, slices.Repeat([]api.Graph{once()}, n), f)
			wantRefused(t, "no such graph, none set once", api.ErrArg, slices.Repeat([]api.Graph{twice()}, n), f)
		}
	}
	wantRefused(t, "none at all", api.ErrArg, nil, 0)
	wantRefused(t, "an empty list", api.ErrArg, []api.Graph{}, 0)
}

func TestNotSetOnce(t *testing.T) {
	for what, g := range map[string]api.Graph{
		"two settings":                   twice(),
		"a parameter that is set":        truths(1, 1, block(back(0), number(0, 1))),
		"never set":                      truths(0, 1, block(back(0))),
		"set behind its use":             truths(0, 2, block(back(0), not(1, 0), number(0, 1))),
		"set in a block beside":          truths(1, 2, block(branch(0, 1, 2)), block(back(1)), block(back(1), number(1, 1))),
		"a phi of what is set elsewhere": truths(1, 3, block(branch(0, 1, 2)), block(jump(2), number(1, 1)), block(back(2), phi(2, 1, 1))),
		"a block that is not reached":    truths(1, 1, block(back(0)), block(back(0))),
		"a circle that is not reached":   truths(1, 1, block(back(0)), block(jump(1))),
	} {
		if e, _ := graph.Check([]api.Graph{g}); e != api.OK {
			t.Fatalf("%s: Check tells %d", what, e)
		}
		wantRefused(t, what, api.ErrShape, []api.Graph{g}, 0)
		wantRefused(t, what, api.ErrShape, []api.Graph{once(), g}, 1)
		wantRefused(t, what, api.ErrArg, []api.Graph{g}, 1)
		wantSolved(t, "beside one that is not set once", []api.Graph{once(), g}, 0)
	}
}

// Bent programs are refused just where Check or Is refuses them; so are facts of them.
func TestBentPrograms(t *testing.T) {
	m := maker{odds: firstOdd}
	count := map[api.Errno]int{}
	for range 8000 {
		p, f := m.program()
		for range m.below(3) {
			m.bend(&p[pick(&m.odds, f, f, m.below(len(p)))])
		}
		if m.often(20) {
			f = m.below(len(p)+2) - 1
		}
		want := api.OK
		if e, _ := graph.Check(p); e != api.OK {
			want = api.ErrShape
		} else if f < 0 || f >= len(p) {
			want = api.ErrArg
		} else if !ssa.Is(p[f]) {
			want = api.ErrShape
		}
		count[want]++
		if want == api.OK {
			wantSolved(t, "a bent program", p, f)
		} else {
			wantRefused(t, "a bent program", want, p, f)
		}
		if t.Failed() {
			return
		}
	}
	if count[api.OK] < 1000 || count[api.ErrArg] < 200 || count[api.ErrShape] < 1000 {
		t.Errorf("%v", count)
	}
}

// bend changes one thing of a graph so that it is mostly right still.
func (m *maker) bend(g *api.Graph) {
	b := &g.Blocks[m.below(len(g.Blocks))]
	at := len(b.Ins)
	if at > 0 {
		at = m.below(at)
	}
	switch what := m.below(8); {
	case what == 0 && len(g.Blocks) > 1:
		b.Term.To[m.below(2)] = 1 + m.below(len(g.Blocks)-1)
	case what == 1 && (b.Term.Kind == api.TermBranch || b.Term.Kind == api.TermReturn):
		b.Term.Arg = m.of(*g, g.Vars[b.Term.Arg])
	case what == 2 && m.often(30):
		g.Blocks = append(g.Blocks, block(trap(1)))
	case what == 3 && m.often(30) && len(g.Vars) > 0 && len(g.Params) < api.MaxParams:
		g.Params = append(g.Params, m.below(len(g.Vars)))
	case at == len(b.Ins):
	case what == 4:
		other := m.below(len(b.Ins))
		b.Ins[at], b.Ins[other] = b.Ins[other], b.Ins[at]
	case what == 5:
		b.Ins = slices.Delete(b.Ins, at, at+1)
	case what == 6 && sets(b.Ins[at]):
		b.Ins[at].Dst = m.of(*g, g.Vars[b.Ins[at].Dst])
	case len(b.Ins[at].Args) > 0:
		i := m.below(len(b.Ins[at].Args))
		b.Ins[at].Args[i] = m.of(*g, g.Vars[b.Ins[at].Args[i]])
	}
}

// What is refused has no facts that hold, though they would of the graph by itself.
func TestNothingHoldsOfWhatIsRefused(t *testing.T) {
	p := []api.Graph{once()}
	x := factsOf("11", "11 00", varying, unseen)
	if !sccp.Holds(p, 0, x) {
		t.Errorf("%v do not hold", x)
	}
	for _, f := range strays(1) {
		if sccp.Holds(p, f, x) {
			t.Errorf("%v hold of the graph %d", x, f)
		}
	}
	if sccp.Holds([]api.Graph{once(), wrong()}, 0, x) || sccp.Holds(slices.Repeat(p, 65), 0, x) {
		t.Errorf("%v hold of a graph of a program that is not right", x)
	}
}
