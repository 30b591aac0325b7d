package sccp_test

import (
	"math"
	"slices"
	"testing"

	"smithy/api"
	"smithy/sccp"
)

// fork branches on what is known; the block 2 is never reached. 0: the parameter, 1: true, 2: set by the block 1, 3: by 2, 4: the phi of both, 5: what nobody sets.
func fork() api.Graph {
	return truths(1, 6,
		block(branch(1, 1, 2), number(1, 1)),
		block(jump(3), number(2, 0)),
		block(jump(3), not(3, 0)),
		block(back(4), phi(4, 2, 3)),
	)
}

func leastOfFork() api.Facts {
	return factsOf("1101", "10 10 00 00", varying, known(1), known(0), unseen, known(0), unseen)
}

func TestLeastFactsHold(t *testing.T) {
	wantFacts(t, "the least", fork(), leastOfFork())
	wantHolds(t, "the least", true, fork(), leastOfFork())
	wantHolds(t, "the highest", true, fork(), highest(fork()))
}

func TestFactsOfOtherSizes(t *testing.T) {
	g := fork()
	for what, bend := range map[string]func(x *api.Facts){
		"no cell":        func(x *api.Facts) { x.Cells = nil },
		"a cell fewer":   func(x *api.Facts) { x.Cells = x.Cells[:5] },
		"a cell more":    func(x *api.Facts) { x.Cells = append(x.Cells, unseen) },
		"no block":       func(x *api.Facts) { x.Reached = nil },
		"a block fewer":  func(x *api.Facts) { x.Reached = x.Reached[:3] },
		"a block more":   func(x *api.Facts) { x.Reached = append(x.Reached, false) },
		"no edges":       func(x *api.Facts) { x.Edges = nil },
		"edges fewer":    func(x *api.Facts) { x.Edges = x.Edges[:3] },
		"edges more":     func(x *api.Facts) { x.Edges = append(x.Edges, [2]bool{}) },
		"nothing at all": func(x *api.Facts) { *x = api.Facts{} },
		"all more": func(x *api.Facts) {
			x.Cells, x.Reached, x.Edges = append(x.Cells, unseen), append(x.Reached, false), append(x.Edges, [2]bool{})
		},
	} {
		for _, x := range []api.Facts{leastOfFork(), highest(g)} {
			bend(&x)
			wantHolds(t, what, false, g, x)
		}
	}
	none := api.Graph{Result: api.U8, Blocks: []api.Block{block(trap(3))}}
	wantHolds(t, "no cell where there is no variable", true, none, factsOf("1", "00"))
	wantHolds(t, "an empty list of cells", true, none, api.Facts{Cells: []api.Cell{}, Reached: []bool{true}, Edges: [][2]bool{{}}})
	wantHolds(t, "a cell where there is no variable", false, none, factsOf("1", "00", unseen))
	wantHolds(t, "nothing at all", false, none, api.Facts{})
}

// A cell must be told as it is, though nothing sets its variable.
func TestCellsThatAreNone(t *testing.T) {
	g := fork()
	for v := range g.Vars {
		for _, bits := range []uint64{0, 1, 2, math.MaxUint64} {
			for _, kind := range []api.CellKind{3, 4, 7, 128, 255} {
				x := highest(g)
				x.Cells[v] = api.Cell{Kind: kind, Bits: bits}
				wantHolds(t, "a kind that is none", false, g, x)
			}
			if bits == 0 {
				continue
			}
			x := highest(g)
			x.Cells[v].Bits = bits
			wantHolds(t, "Bits beside Varying", false, g, x)
			x = leastOfFork()
			if x.Cells[v] == unseen {
				x.Cells[v].Bits = bits
				wantHolds(t, "Bits beside Unseen", false, g, x)
			}
		}
	}
}

func TestBitsThatAreNoWord(t *testing.T) {
	for _, typ := range types {
		// The variable 1 is set by nobody.
		g := graphOf(typ, 1, 2, block(back(0)))
		for _, w := range wordsOf(typ) {
			wantHolds(t, "a word", true, g, factsOf("1", "00", varying, known(w)))
		}
		for _, w := range map[api.Type][]uint64{
			api.Bool: {2, 3, 255, 1 << 63, math.MaxUint64},
			api.U8:   {256, 1 << 32, math.MaxUint64},
			api.I32:  {1 << 31, 1 << 32, 1<<32 - 1, 1 << 63, whole(math.MinInt32 - 1)},
			api.F64:  {nan + 1, nan - 1, nan | 1<<63, math.MaxUint64},
		}[typ] {
			wantHolds(t, "no word", false, g, factsOf("1", "00", varying, known(w)))
		}
	}
}

// wantBent asks whether the least facts of fork hold when they are bent.
func wantBent(t *testing.T, what string, want bool, bend func(x *api.Facts)) {
	t.Helper()
	x := leastOfFork()
	bend(&x)
	wantHolds(t, what, want, fork(), x)
}

func TestOneCellBent(t *testing.T) {
	set := func(v int, c api.Cell) func(x *api.Facts) { return func(x *api.Facts) { x.Cells[v] = c } }
	for _, c := range []api.Cell{unseen, known(0), known(1)} {
		wantBent(t, "a parameter that is not Varying", false, set(0, c))
	}
	wantBent(t, "a constant that is Unseen", false, set(1, unseen))
	wantBent(t, "a constant that is another one", false, set(1, known(0)))
	wantBent(t, "a constant that is Varying, by which both ways are gone", false, set(1, varying))
	wantBent(t, "what a block sets that is reached", false, set(2, unseen))
	wantBent(t, "what a block sets that is reached, otherwise", false, set(2, known(1)))
	wantBent(t, "a phi's argument that is Varying", false, set(2, varying))
	wantBent(t, "a phi that is Unseen", false, set(4, unseen))
	wantBent(t, "a phi that is another one", false, set(4, known(1)))
	wantBent(t, "a phi that is Varying, on which nothing hangs", true, set(4, varying))
	for _, c := range []api.Cell{known(0), known(1), varying} {
		wantBent(t, "what a block sets that is not reached", true, set(3, c))
		wantBent(t, "what nobody sets", true, set(5, c))
	}
}

func TestOneTruthBent(t *testing.T) {
	wantBent(t, "the entry is not reached", false, func(x *api.Facts) { x.Reached[0] = false })
	wantBent(t, "a block is not reached", false, func(x *api.Facts) { x.Reached[1] = false })
	wantBent(t, "the last block is not reached", false, func(x *api.Facts) { x.Reached[3] = false })
	wantBent(t, "a block is reached that makes an edge", false, func(x *api.Facts) { x.Reached[2] = true })
	wantBent(t, "an edge of a branch fewer", false, func(x *api.Facts) { x.Edges[0][0] = false })
	wantBent(t, "an edge of a jump fewer", false, func(x *api.Facts) { x.Edges[1][0] = false })
	wantBent(t, "an edge to what is not reached", false, func(x *api.Facts) { x.Edges[0][1] = true })
	// Edges of a block that is not reached lead nowhere, nor do those of ends that name nothing.
	wantBent(t, "an edge of what is not reached", true, func(x *api.Facts) { x.Edges[2][0] = true })
	wantBent(t, "a second edge of what is not reached", true, func(x *api.Facts) { x.Edges[2][1] = true })
	wantBent(t, "a second edge of a jump", true, func(x *api.Facts) { x.Edges[1][1] = true })
	wantBent(t, "edges of a return", true, func(x *api.Facts) { x.Edges[3] = [2]bool{true, true} })
	wantBent(t, "nothing but edges", false, func(x *api.Facts) { clear(x.Reached) })
}

func TestGreaterFacts(t *testing.T) {
	wantBent(t, "the other way gone, all that follows with it", true, func(x *api.Facts) {
		x.Edges[0][1], x.Reached[2], x.Edges[2][0] = true, true, true
		x.Cells[3], x.Cells[4] = varying, varying
	})
	wantBent(t, "the other way gone, the phi as it was", false, func(x *api.Facts) {
		x.Edges[0][1], x.Reached[2], x.Edges[2][0] = true, true, true
		x.Cells[3] = varying
	})
	wantBent(t, "the other way gone, what is set there not", false, func(x *api.Facts) {
		x.Edges[0][1], x.Reached[2], x.Edges[2][0] = true, true, true
		x.Cells[4] = varying
	})
	wantBent(t, "a block reached by no edge, all that follows with it", true, func(x *api.Facts) {
		x.Reached[2], x.Edges[2][0] = true, true
		x.Cells[3], x.Cells[4] = varying, varying
	})
	wantBent(t, "a block reached by no edge, its own edge missing", false, func(x *api.Facts) {
		x.Reached[2] = true
		x.Cells[3], x.Cells[4] = varying, varying
	})
	wantBent(t, "the condition Varying, all that follows with it", true, func(x *api.Facts) {
		x.Cells[1] = varying
		x.Edges[0][1], x.Reached[2], x.Edges[2][0] = true, true, true
		x.Cells[3], x.Cells[4] = varying, varying
	})
	wantBent(t, "the condition Varying, the edge missing", false, func(x *api.Facts) {
		x.Cells[1] = varying
		x.Reached[2], x.Edges[2][0] = true, true
		x.Cells[3], x.Cells[4] = varying, varying
	})
	wantBent(t, "an argument Varying, the phi with it", true, func(x *api.Facts) { x.Cells[2], x.Cells[4] = varying, varying })
}

// A block that is said to be reached by no edge has phis of nothing: what is made of these is Unseen, and no way leads on.
func TestUnseenWhereItIsReached(t *testing.T) {
	const p, truth, one, two, made, turned, copied, mixed = 0, 1, 2, 3, 4, 5, 6, 7
	g := truths(1, 8,
		block(branch(truth, 3, 1), number(truth, 1)),
		block(branch(made, 2, 3), phi(one, p), phi(two, truth), op(api.OpEq, made, two, p), not(turned, one), copyOf(copied, two), op(api.OpAnd, mixed, truth, one)),
		block(back(made)),
		block(trap(1)),
	)
	idle := func() api.Facts {
		return factsOf("1101", "10 00 00 00", varying, known(1), unseen, unseen, unseen, unseen, unseen, unseen)
	}
	wantHolds(t, "nothing follows of what is Unseen", true, g, idle())
	for v := one; v <= mixed; v++ {
		for _, c := range []api.Cell{known(0), known(1), varying} {
			x := idle()
			x.Cells[v] = c
			if isHolding(g, x) != sccp.Holds([]api.Graph{g}, 0, x) {
				t.Errorf("Holds of %v, %v tells %v", g, x, !isHolding(g, x))
			}
		}
	}
	x := idle()
	x.Cells[mixed], x.Cells[turned], x.Cells[copied] = varying, known(1), known(0)
	wantHolds(t, "what nothing hangs on", true, g, x)
	x = idle()
	x.Cells[two] = known(0)
	wantHolds(t, "of a phi that is known follows what is made of it", false, g, x)
	x.Cells[made], x.Cells[copied] = varying, known(0)
	wantHolds(t, "a branch that is Varying makes both edges", false, g, x)
	x.Edges[1], x.Reached[2] = [2]bool{true, true}, true
	wantHolds(t, "all that follows", true, g, x)
	x = idle()
	x.Cells[made] = known(1)
	wantHolds(t, "a branch that is known makes an edge", false, g, x)
	x.Edges[1][1] = true
	wantHolds(t, "the other edge", false, g, x)
	x.Edges[1] = [2]bool{true, false}
	wantHolds(t, "an edge to what is not reached", false, g, x)
	x.Reached[2] = true
	wantHolds(t, "an edge, and what it leads to", true, g, x)
	x.Cells[made], x.Edges[1] = known(0), [2]bool{false, true}
	wantHolds(t, "false", true, g, x)
}

// Both ends of a branch may lead to one block: either edge hands a phi its argument.
func TestEitherEdgeToOneBlock(t *testing.T) {
	g := truths(1, 3, block(branch(1, 1, 1), number(1, 1)), block(back(2), phi(2, 1)))
	wantHolds(t, "the first one", true, g, factsOf("11", "10 00", varying, known(1), known(1)))
	wantHolds(t, "both", true, g, factsOf("11", "11 00", varying, known(1), known(1)))
	wantHolds(t, "the second one", false, g, factsOf("11", "01 00", varying, known(1), known(1)))
	wantHolds(t, "neither", false, g, factsOf("11", "00 00", varying, known(1), known(1)))
	wantHolds(t, "a phi of nothing", false, g, factsOf("11", "10 00", varying, known(1), unseen))
	g.Blocks[0].Ins[0].Bits = 0
	wantHolds(t, "the second one, false", true, g, factsOf("11", "01 00", varying, known(0), known(0)))
	wantHolds(t, "the second one, a phi of nothing", false, g, factsOf("11", "01 00", varying, known(0), unseen))
	wantHolds(t, "the first one, false", false, g, factsOf("11", "10 00", varying, known(0), known(0)))
}

// eachFacts goes through all facts of a graph of truths.
func eachFacts(g api.Graph, do func(x api.Facts)) {
	cells := []api.Cell{unseen, known(0), known(1), varying}
	n, k := len(g.Blocks), len(g.Vars)
	x := api.Facts{Cells: make([]api.Cell, k), Reached: make([]bool, n), Edges: make([][2]bool, n)}
	for number := range 1 << (3*n + 2*k) {
		left := number
		digit := func(base int) int {
			d := left % base
			left /= base
			return d
		}
		for v := range k {
			x.Cells[v] = cells[digit(4)]
		}
		for i := range n {
			x.Reached[i], x.Edges[i] = digit(2) == 1, [2]bool{digit(2) == 1, digit(2) == 1}
		}
		do(x)
	}
}

// Of all facts of small graphs just those hold that the words say, and the least ones are below all of these.
func TestAllFactsOfSmallGraphs(t *testing.T) {
	for _, g := range []api.Graph{
		truths(1, 2, block(back(1), not(1, 0))),
		truths(0, 2, block(jump(1), number(0, 1)), block(trap(1), copyOf(1, 0))),
		truths(1, 2, block(branch(0, 1, 1)), block(back(1), phi(1, 0))),
		truths(0, 2, block(jump(1), number(0, 1)), block(branch(1, 1, 1), phi(1, 0, 1))),
		truths(0, 3, block(jump(1), number(0, 1)), block(branch(1, 1, 2), phi(1, 0, 2), op(api.OpEq, 2, 1, 0)), block(back(1))),
		truths(0, 3, block(jump(1), number(0, 1)), block(branch(1, 1, 2), phi(1, 0, 2), not(2, 1)), block(back(1))),
		truths(1, 3, block(branch(0, 1, 2), number(1, 0)), block(jump(2)), block(back(2), phi(2, 1, 0))),
		truths(0, 3, block(branch(0, 1, 2), number(0, 0)), block(jump(2), number(1, 1)), block(branch(2, 1, 2), phi(2, 0, 1, 2))),
	} {
		lowest := wantSolved(t, "a small graph", []api.Graph{g}, 0)
		holding, others := 0, 0
		eachFacts(g, func(x api.Facts) {
			want := isHolding(g, x)
			if got := sccp.Holds([]api.Graph{g}, 0, x); got != want {
				t.Fatalf("Holds of %v, %v tells %v", g, x, got)
			}
			if want && !isUnder(lowest, x) {
				t.Fatalf("%v are not the least of %v: %v hold", lowest, g, x)
			}
			if want {
				holding++
			} else {
				others++
			}
		})
		if holding < 2 || others < 2 {
			t.Errorf("%v: %d hold, %d do not", g, holding, others)
		}
	}
}

// Facts hold of one graph of a program, whatever else is in it.
func TestHoldsOfOneOfSeveral(t *testing.T) {
	p := []api.Graph{once(), fork(), twice()}
	if x := leastOfFork(); !sccp.Holds(p, 1, x) || sccp.Holds(p, 0, x) || sccp.Holds(p, 2, x) {
		t.Errorf("%v hold of another graph, or not of their own", x)
	}
	q := slices.Clone(p)
	slices.Reverse(q)
	if !sccp.Holds(q, 1, leastOfFork()) {
		t.Errorf("the least facts do not hold")
	}
}
