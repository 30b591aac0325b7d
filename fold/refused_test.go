package fold_test

import (
	"math"
	"slices"
	"testing"

	"smithy/api"
	"smithy/fold"
	"smithy/graph"
	"smithy/sccp"
	"smithy/ssa"
)

// once is a graph that is set once, twice is right but not set once, wrong is not right.
func once() api.Graph { return truths(1, 2, block(branch(0, 1, 1)), block(back(0))) }

func twice() api.Graph {
	return truths(1, 2, block(jump(1), number(1, 0)), block(back(1), number(1, 1)))
}

func wrong() api.Graph { return truths(1, 2, block(jump(0))) }

func factsOfOnce() api.Facts { return factsOf("11", "11 00", varying, unseen) }

// wantRefusedWhatever asks for an error, whether facts would hold or not.
func wantRefusedWhatever(t *testing.T, what string, want api.Errno, p []api.Graph, f int) {
	t.Helper()
	some := []api.Facts{{}, factsOf("1", "00"), factsOfOnce(), factsOf("11", "11 11", varying, varying), factsOf("1", "11", api.Cell{Kind: 9, Bits: 9})}
	if 0 <= f && f < len(p) {
		some = append(some, highest(p[f]))
	}
	for _, x := range some {
		wantRefused(t, what, want, p, f, x)
	}
}

func TestProgramsThatAreNotRight(t *testing.T) {
	for _, f := range append(strays(2), 0, 1) {
		wantRefusedWhatever(t, "a graph that is not right", api.ErrShape, []api.Graph{wrong(), once()}, f)
		wantRefusedWhatever(t, "another graph that is not right", api.ErrShape, []api.Graph{once(), wrong()}, f)
		wantRefusedWhatever(t, "a graph without blocks", api.ErrShape, []api.Graph{once(), {}}, f)
		wantRefusedWhatever(t, "a wrong one beside one that is not set once", api.ErrShape, []api.Graph{twice(), wrong()}, f)
	}
	// By itself it is set once; in the program it is not right.
	stray := once()
	stray.Blocks[0].Ins = []api.Ins{call(2, 1, 0)}
	wantRefusedWhatever(t, "a call of what is not there", api.ErrShape, []api.Graph{stray, once()}, 0)
	wantRefusedWhatever(t, "a call of what is not there, by another one", api.ErrShape, []api.Graph{stray, once()}, 1)
	stray.Blocks[0].Ins = []api.Ins{call(1, 1)}
	wantRefusedWhatever(t, "a call with too few arguments", api.ErrShape, []api.Graph{stray, once()}, 0)
	stray.Blocks[0].Ins = []api.Ins{call(1, 1, 0)}
	wantFolded(t, "a call that is right", []api.Graph{stray, once()}, 0)
	wantKept(t, "one that is called", []api.Graph{stray, once()}, 1, factsOfOnce())
}

func TestTooManyGraphs(t *testing.T) {
	p := slices.Repeat([]api.Graph{once()}, 65)
	for _, f := range append(strays(65), 0, 64) {
		wantRefusedWhatever(t, "65 graphs", api.ErrShape, p, f)
		wantRefusedWhatever(t, "65 of nothing", api.ErrShape, make([]api.Graph, 65), f)
		wantRefusedWhatever(t, "65 that are not set once", api.ErrShape, slices.Repeat([]api.Graph{twice()}, 65), f)
	}
	for _, f := range []int{0, 33, 63} {
		wantApplied(t, "64 graphs", p[:64], f, factsOfOnce())
	}
	wantRefusedWhatever(t, "64 graphs", api.ErrArg, p[:64], 64)
}

func TestNoSuchGraph(t *testing.T) {
	for n := range 4 {
		for _, f := range strays(n) {
			wantRefusedWhatever(t, "no such graph", api.ErrArg, slices.Repeat([]api.Graph{once()}, n), f)
			wantRefusedWhatever(t, "no such graph, none set once", api.ErrArg, slices.Repeat([]api.Graph{twice()}, n), f)
		}
	}
	wantRefusedWhatever(t, "none at all", api.ErrArg, nil, 0)
	wantRefusedWhatever(t, "an empty list", api.ErrArg, []api.Graph{}, 0)
}

func TestNotSetOnce(t *testing.T) {
	for what, g := range map[string]api.Graph{
		"two settings":                   twice(),
		"a parameter that is set":        truths(1, 1, block(back(0), number(0, 1))),
		"never set":                      truths(0, 1, block(back(0))),
		"set behind its use":             truths(0, 2, block(back(0), not(1, 0), number(0, 1))),
		"set in a block beside":          truths(1, 2, block(branch(0, 1, 2)), block(back(1)), block(back(1), number(1, 1))),
		"a phi of what is set elsewhere": truths(1, 3, block(branch(0, 1, 2)), block(jump(2), number(1, 1)), block(back(2), phi(2, 1, 1))),
		"a block that is not reached":    truths(1, 1, block(back(0)), block(back(0))),
		"a circle that is not reached":   truths(1, 1, block(back(0)), block(jump(1))),
	} {
		if e, _ := graph.Check(alone(g)); e != api.OK {
			t.Fatalf("%s: Check tells %d", what, e)
		}
		wantRefusedWhatever(t, what, api.ErrShape, alone(g), 0)
		wantRefusedWhatever(t, what, api.ErrShape, []api.Graph{once(), g}, 1)
		wantRefusedWhatever(t, what, api.ErrArg, alone(g), 1)
		wantApplied(t, "beside one that is not set once", []api.Graph{once(), g}, 0, factsOfOnce())
	}
}

func TestFactsOfOtherSizes(t *testing.T) {
	for what, bend := range map[string]func(x *api.Facts){
		"no cell":        func(x *api.Facts) { x.Cells = nil },
		"a cell fewer":   func(x *api.Facts) { x.Cells = x.Cells[:5] },
		"a cell more":    func(x *api.Facts) { x.Cells = append(x.Cells, unseen) },
		"no block":       func(x *api.Facts) { x.Reached = nil },
		"a block fewer":  func(x *api.Facts) { x.Reached = x.Reached[:3] },
		"a block more":   func(x *api.Facts) { x.Reached = append(x.Reached, false) },
		"no edges":       func(x *api.Facts) { x.Edges = nil },
		"edges fewer":    func(x *api.Facts) { x.Edges = x.Edges[:3] },
		"edges more":     func(x *api.Facts) { x.Edges = append(x.Edges, [2]bool{}) },
		"nothing at all": func(x *api.Facts) { *x = api.Facts{} },
		"all more": func(x *api.Facts) {
			x.Cells, x.Reached, x.Edges = append(x.Cells, unseen), append(x.Reached, false), append(x.Edges, [2]bool{})
		},
	} {
		for _, x := range []api.Facts{leastOfFork(), highest(fork())} {
			bend(&x)
			wantRefused(t, what, api.ErrArg, alone(fork()), 0, x)
			wantRefused(t, what, api.ErrArg, []api.Graph{once(), fork(), twice()}, 1, x)
		}
	}
	none := api.Graph{Result: api.U8, Blocks: []api.Block{block(trap(3))}}
	wantKept(t, "no cell where there is no variable", alone(none), 0, factsOf("1", "00"))
	wantRefused(t, "a cell where there is no variable", api.ErrArg, alone(none), 0, factsOf("1", "00", unseen))
	wantRefused(t, "nothing at all", api.ErrArg, alone(none), 0, api.Facts{})
}

func TestCellsThatAreNone(t *testing.T) {
	g := fork()
	for v := range g.Vars {
		for _, bits := range []uint64{0, 1, 2, math.MaxUint64} {
			for _, kind := range []api.CellKind{3, 4, 7, 128, 255} {
				x := highest(g)
				x.Cells[v] = api.Cell{Kind: kind, Bits: bits}
				wantRefused(t, "a kind that is none", api.ErrArg, alone(g), 0, x)
			}
			if bits == 0 {
				continue
			}
			x := highest(g)
			x.Cells[v].Bits = bits
			wantRefused(t, "Bits beside Varying", api.ErrArg, alone(g), 0, x)
			x = leastOfFork()
			if x.Cells[v] == unseen {
				x.Cells[v].Bits = bits
				wantRefused(t, "Bits beside Unseen", api.ErrArg, alone(g), 0, x)
			}
		}
	}
}

func TestBitsThatAreNoWord(t *testing.T) {
	for _, typ := range types {
		// The variable 1 is set by nobody.
		g := graphOf(typ, 1, 2, block(back(0)))
		for _, w := range wordsOf(typ) {
			wantBecomeBy(t, "a word", g, factsOf("1", "00", varying, known(w)), g.Blocks...)
		}
		for _, w := range map[api.Type][]uint64{
			api.Bool: {2, 3, 255, 1 << 63, math.MaxUint64},
			api.U8:   {256, 1 << 32, math.MaxUint64},
			api.I32:  {1 << 31, 1 << 32, 1<<32 - 1, 1 << 63, whole(math.MinInt32 - 1)},
			api.F64:  {nan + 1, nan - 1, nan | 1<<63, math.MaxUint64},
		}[typ] {
			wantRefused(t, "no word", api.ErrArg, alone(g), 0, factsOf("1", "00", varying, known(w)))
		}
	}
}

// eachLower goes through facts with one cell, block or edge less than some have.
func eachLower(g api.Graph, x api.Facts, do func(what string, y api.Facts)) {
	for v, c := range x.Cells {
		y := copiedFacts(x)
		if y.Cells[v] = unseen; c != unseen {
			do("a cell Unseen", y)
		}
		if y.Cells[v] = known(0); c == varying {
			do("a cell Known 0", y)
		}
		if y.Cells[v] = known(1); c == varying {
			do("a cell Known 1", y)
		}
	}
	for i, is := range x.Reached {
		y := copiedFacts(x)
		if y.Reached[i] = false; is {
			do("a block fewer", y)
		}
		for side, is := range x.Edges[i] {
			y := copiedFacts(x)
			if y.Edges[i][side] = false; is {
				do("an edge fewer", y)
			}
		}
	}
}

// Whatever is less than the least somewhere does not hold.
func TestLessThanTheLeast(t *testing.T) {
	m := maker{odds: firstOdd}
	refused := 0
	for range 1500 {
		p, f := m.program()
		eachLower(p[f], lowest(t, "a made program", p, f), func(what string, y api.Facts) {
			wantRefused(t, what, api.ErrArg, p, f, y)
			refused++
		})
		if t.Failed() {
			return
		}
	}
	if refused < 20000 {
		t.Errorf("%d were refused", refused)
	}
	eachLower(fork(), leastOfFork(), func(what string, y api.Facts) { wantRefused(t, what, api.ErrArg, alone(fork()), 0, y) })
	for v, c := range map[int]api.Cell{0: known(1), 1: known(0), 2: known(1), 4: known(1)} {
		x := leastOfFork()
		x.Cells[v] = c
		wantRefused(t, "another word", api.ErrArg, alone(fork()), 0, x)
	}
}

// Facts of another graph do not hold, of whichever they are.
func TestFactsOfAnotherGraph(t *testing.T) {
	p := []api.Graph{once(), fork(), twice()}
	wantApplied(t, "of its own", p, 1, leastOfFork())
	wantApplied(t, "of its own", p, 0, factsOfOnce())
	wantRefused(t, "of another one", api.ErrArg, p, 0, leastOfFork())
	wantRefused(t, "of another one", api.ErrArg, p, 1, factsOfOnce())
	wantRefused(t, "of one that is not set once", api.ErrShape, p, 2, factsOfOnce())
	wantRefused(t, "of none", api.ErrArg, p, 3, factsOfOnce())
}

// bend changes one thing of a graph so that it is mostly right still.
func (m *maker) bend(g *api.Graph) {
	b := &g.Blocks[m.below(len(g.Blocks))]
	at := len(b.Ins)
	if at > 0 {
		at = m.below(at)
	}
	switch what := m.below(8); {
	case what == 0 && len(g.Blocks) > 1:
		b.Term.To[m.below(2)] = 1 + m.below(len(g.Blocks)-1)
	case what == 1 && (b.Term.Kind == api.TermBranch || b.Term.Kind == api.TermReturn):
		b.Term.Arg = m.of(*g, g.Vars[b.Term.Arg])
	case what == 2 && m.often(30):
		g.Blocks = append(g.Blocks, block(trap(1)))
	case what == 3 && m.often(30) && len(g.Vars) > 0 && len(g.Params) < api.MaxParams:
		g.Params = append(g.Params, m.below(len(g.Vars)))
	case at == len(b.Ins):
	case what == 4:
		other := m.below(len(b.Ins))
		b.Ins[at], b.Ins[other] = b.Ins[other], b.Ins[at]
	case what == 5:
		b.Ins = slices.Delete(b.Ins, at, at+1)
	case what == 6 && sets(b.Ins[at]):
		b.Ins[at].Dst = m.of(*g, g.Vars[b.Ins[at].Dst])
	case len(b.Ins[at].Args) > 0:
		i := m.below(len(b.Ins[at].Args))
		b.Ins[at].Args[i] = m.of(*g, g.Vars[b.Ins[at].Args[i]])
	}
}

// The errors of bent programs and bent facts, in their order: those of Solve, then that of facts that do not hold.
func TestBentProgramsAndFacts(t *testing.T) {
	m := maker{odds: firstOdd}
	count := map[string]int{}
	for range 6000 {
		p, f := m.program()
		x := lowest(t, "a made program", p, f)
		for range m.below(3) {
			m.bend(&p[pick(&m.odds, f, f, m.below(len(p)))])
		}
		if m.often(20) {
			f = m.below(len(p)+2) - 1
		}
		if m.often(50) && 0 <= f && f < len(p) && len(x.Cells) == len(p[f].Vars) && len(x.Reached) == len(p[f].Blocks) {
			m.bendFacts(p[f], &x)
		}
		want, why := api.OK, "none"
		if e, _ := graph.Check(p); e != api.OK {
			want, why = api.ErrShape, "not right"
		} else if f < 0 || f >= len(p) {
			want, why = api.ErrArg, "no graph"
		} else if !ssa.Is(p[f]) {
			want, why = api.ErrShape, "not set once"
		} else if !sccp.Holds(p, f, x) {
			want, why = api.ErrArg, "facts"
		}
		count[why]++
		if want == api.OK {
			wantApplied(t, "bent", p, f, x)
		} else {
			wantRefused(t, "bent", want, p, f, x)
		}
		if t.Failed() {
			return
		}
	}
	for _, why := range []string{"none", "not right", "no graph", "not set once", "facts"} {
		if count[why] < 200 {
			t.Errorf("%v", count)
		}
	}
}

// What was refused leaves nothing behind.
func TestRefusedInBetween(t *testing.T) {
	want := wantApplied(t, "at first", alone(fork()), 0, leastOfFork())
	for range 3 {
		fold.Apply(alone(fork()), 0, api.Facts{})
		fold.Apply(nil, 0, leastOfFork())
		if g := wantApplied(t, "again", alone(fork()), 0, leastOfFork()); !sameGraph(g, want) {
			t.Errorf("%v becomes %v; it became %v", fork(), g, want)
		}
	}
}
