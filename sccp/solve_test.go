package sccp_test

import (
	"math"
	"slices"
	"testing"

	"smithy/api"
	"smithy/run"
	"smithy/scalar"
)

func TestConstants(t *testing.T) {
	for _, typ := range types {
		for _, w := range wordsOf(typ) {
			g := graphOf(typ, 0, 3, block(back(2), number(0, w), copyOf(1, 0), copyOf(2, 1)))
			wantFacts(t, "a constant, copied", g, factsOf("1", "00", known(w), known(w), known(w)))
		}
		g := graphOf(typ, 1, 3, block(back(2), copyOf(1, 0), copyOf(2, 1)))
		wantFacts(t, "a parameter, copied", g, factsOf("1", "00", varying, varying, varying))
	}
}

func TestNothingIsSet(t *testing.T) {
	wantFacts(t, "no variable", api.Graph{Result: api.U8, Blocks: []api.Block{block(trap(3))}}, factsOf("1", "00"))
	wantFacts(t, "no variable, a circle", api.Graph{Result: api.U8, Blocks: []api.Block{block(jump(1)), block(jump(1))}}, factsOf("11", "10 10"))
	wantFacts(t, "variables that nobody sets", truths(1, 4, block(back(0))), factsOf("1", "00", varying, unseen, unseen, unseen))
	wantFacts(t, "parameters that nobody asks", truths(2, 2, block(trap(1))), factsOf("1", "00", varying, varying))
}

// told is what a graph with a word for its parameter tells when it is run.
func told(t *testing.T, g api.Graph, words ...uint64) uint64 {
	t.Helper()
	trace, e := run.Run([]api.Graph{g}, 0, words, 9, 1)
	if e != api.OK || trace.End != api.Told {
		t.Fatalf("%v of %v: %v, %d", g, words, trace, e)
	}
	return trace.Value
}

// Each operation on words of each type is what it tells in a run; of a parameter it is Varying.
func TestOperations(t *testing.T) {
	for o := api.OpAdd; o <= api.OpNot; o++ {
		for _, typ := range types {
			result, ok := scalar.Of(o, typ)
			if !ok {
				continue
			}
			for _, a := range wordsOf(typ) {
				for _, b := range wordsOf(typ) {
					wantOperation(t, o, typ, result, a, b)
				}
			}
		}
	}
}

func wantOperation(t *testing.T, o api.Op, typ, result api.Type, a, b uint64) {
	t.Helper()
	const first, second, param, r, one, two = 0, 1, 2, 3, 4, 5
	args := func(l ...int) []int {
		if o == api.OpNeg || o == api.OpNot {
			return l[:1]
		}
		return l
	}
	g := graphOf(typ, 0, 6, block(back(r), number(first, a), number(second, b), op(o, r, args(first, second)...), op(o, one, args(param, second)...), op(o, two, args(first, param)...)))
	g.Params, g.Result = row(param), result
	g.Vars[r], g.Vars[one], g.Vars[two] = result, result, result
	is := known(told(t, g, a))
	last := varying
	if o == api.OpNeg || o == api.OpNot {
		last = is
	}
	wantCells(t, "an operation", g, known(a), known(b), varying, is, varying, last)
}

func TestCasts(t *testing.T) {
	for _, from := range types[1:] {
		for _, to := range types[1:] {
			for _, w := range wordsOf(from) {
				g := api.Graph{Params: row(2), Result: to, Vars: []api.Type{from, to, from, to}, Blocks: []api.Block{block(back(1), number(0, w), cast(1, 0), cast(3, 2))}}
				wantCells(t, "a cast", g, known(w), known(told(t, g, w)), varying, varying)
			}
		}
	}
}

// wantMade asks for what an operation, or a cast, makes of words that are known.
func wantMade(t *testing.T, what string, want uint64, typ, result api.Type, ins api.Ins, words ...uint64) {
	t.Helper()
	g := graphOf(typ, 0, len(words)+1, block(trap(1)))
	cells := []api.Cell{}
	for v, w := range words {
		g.Blocks[0].Ins = append(g.Blocks[0].Ins, number(v, w))
		cells = append(cells, known(w))
	}
	ins.Dst, ins.Args = len(words), counted(0, len(words))
	g.Vars[len(words)] = result
	g.Blocks[0].Ins = append(g.Blocks[0].Ins, ins)
	wantCells(t, what, g, append(cells, known(want))...)
}

// What a source may not do is whole in graphs, and so is known.
func TestWholeOperations(t *testing.T) {
	for _, typ := range []api.Type{api.U8, api.I32, api.I64} {
		wantMade(t, "5 over 0", 0, typ, typ, op(api.OpDiv, 0), 5, 0)
		wantMade(t, "the rest of 5 over 0", 0, typ, typ, op(api.OpRem, 0), 5, 0)
		wantMade(t, "NaN", 0, api.F64, typ, cast(0, 0), nan)
		wantMade(t, "far too great", 0, api.F64, typ, cast(0, 0), float(1e300))
		wantMade(t, "-0.9", 0, api.F64, typ, cast(0, 0), float(-0.9))
	}
	wantMade(t, "200 + 100", 44, api.U8, api.U8, op(api.OpAdd, 0), 200, 100)
	wantMade(t, "the least over -1", 1<<63, api.I64, api.I64, op(api.OpDiv, 0), 1<<63, whole(-1))
	wantMade(t, "255.9", 255, api.F64, api.U8, cast(0, 0), float(255.9))
	wantMade(t, "256.0", 0, api.F64, api.U8, cast(0, 0), float(256))
	wantMade(t, "-1 as one of 8 bits", 255, api.I64, api.U8, cast(0, 0), whole(-1))
	wantMade(t, "not 0", whole(-1), api.I32, api.I32, op(api.OpNot, 0), 0)
	wantMade(t, "not false", 1, api.Bool, api.Bool, op(api.OpNot, 0), 0)
}

func TestFloats(t *testing.T) {
	inf := float(math.Inf(1))
	wantMade(t, "0 over 0", nan, api.F64, api.F64, op(api.OpDiv, 0), 0, 0)
	wantMade(t, "1 over 0", inf, api.F64, api.F64, op(api.OpDiv, 0), float(1), 0)
	wantMade(t, "1 over -0", inf|1<<63, api.F64, api.F64, op(api.OpDiv, 0), float(1), minusNought)
	wantMade(t, "infinity less itself", nan, api.F64, api.F64, op(api.OpSub, 0), inf, inf)
	wantMade(t, "NaN and 1", nan, api.F64, api.F64, op(api.OpAdd, 0), nan, float(1))
	wantMade(t, "-NaN", nan, api.F64, api.F64, op(api.OpNeg, 0), nan)
	wantMade(t, "-0", minusNought, api.F64, api.F64, op(api.OpNeg, 0), 0)
	wantMade(t, "NaN == NaN", 0, api.F64, api.Bool, op(api.OpEq, 0), nan, nan)
	wantMade(t, "NaN != NaN", 1, api.F64, api.Bool, op(api.OpNe, 0), nan, nan)
	wantMade(t, "0 == -0", 1, api.F64, api.Bool, op(api.OpEq, 0), 0, minusNought)
	wantMade(t, "0 < -0", 0, api.F64, api.Bool, op(api.OpLt, 0), 0, minusNought)
	// Cells are held against each other by their words: a NaN is like itself, and noughts of two signs are unlike.
	for _, c := range []struct {
		a, b uint64
		want api.Cell
	}{{nan, nan, known(nan)}, {0, minusNought, varying}, {0, 0, known(0)}, {minusNought, minusNought, known(minusNought)}, {inf, inf, known(inf)}, {inf, inf | 1<<63, varying}} {
		g := graphOf(api.F64, 0, 4, block(branch(3, 1, 2)), block(jump(3), number(0, c.a)), block(jump(3), number(1, c.b)), block(back(2), phi(2, 0, 1)))
		g.Params, g.Vars[3] = row(3), api.Bool
		wantCells(t, "a phi of floats", g, known(c.a), known(c.b), c.want, varying)
	}
}

// The same by itself, whatever is Varying: what follows of it is not reckoned.
func TestVaryingStays(t *testing.T) {
	g := graphOf(api.I64, 1, 7, block(back(1), number(1, 0), op(api.OpMul, 2, 0, 1), op(api.OpXor, 3, 0, 0), op(api.OpSub, 4, 0, 0), op(api.OpAnd, 5, 1, 0), op(api.OpDiv, 6, 0, 1)))
	wantCells(t, "0 times a parameter", g, varying, known(0), varying, varying, varying, varying, varying)
	g = truths(1, 5, block(back(1), number(1, 1), op(api.OpOr, 2, 0, 1), op(api.OpEq, 3, 0, 0), op(api.OpNe, 4, 0, 0)))
	wantCells(t, "a parameter, or true", g, varying, known(1), varying, varying, varying)
}

func TestLoadsAndCalls(t *testing.T) {
	g := graphOf(api.I64, 0, 7, block(back(6),
		number(0, 0), number(1, 5), wipe(0), load(2, 0, 0), store(0, 0, 1), load(3, 0, 0), load(4, 0, 1), call(0, 5), show(5), copyOf(6, 3)))
	g.Arrays = []api.Array{{Type: api.I64, Size: 1}}
	wantCells(t, "loads and calls", g, known(0), known(5), varying, varying, varying, varying, varying)
	// Others' words play no part, nor does it that they never tell one.
	other := truths(0, 1, block(back(0), number(0, 1)))
	stuck := truths(0, 0, block(trap(1)))
	p := []api.Graph{truths(0, 2, block(branch(0, 1, 2), call(1, 0), call(2, 1)), block(back(0)), block(back(1))), other, stuck}
	if x := wantSolved(t, "calls of others", p, 0); !sameFacts(x, factsOf("111", "11 00 00", varying, varying)) {
		t.Errorf("calls of others: %v", x)
	}
	if x := wantSolved(t, "another one", p, 1); !sameFacts(x, factsOf("1", "00", known(1))) {
		t.Errorf("another one: %v", x)
	}
}

// Each edge's truth stands apart from the other one's.
func TestBranches(t *testing.T) {
	fork := func(ins ...api.Ins) api.Graph {
		return truths(1, 4, block(branch(1, 1, 2), ins...), block(back(2), number(2, 0)), block(back(3), number(3, 1)))
	}
	wantFacts(t, "true", fork(number(1, 1)), factsOf("110", "10 00 00", varying, known(1), known(0), unseen))
	wantFacts(t, "false", fork(number(1, 0)), factsOf("101", "01 00 00", varying, known(0), unseen, known(1)))
	wantFacts(t, "either", fork(not(1, 0)), factsOf("111", "11 00 00", varying, varying, known(0), known(1)))
	same := func(ins ...api.Ins) api.Graph {
		return truths(1, 3, block(branch(1, 1, 1), ins...), block(back(2), phi(2, 1)))
	}
	wantFacts(t, "true, one block", same(number(1, 1)), factsOf("11", "10 00", varying, known(1), known(1)))
	wantFacts(t, "false, one block", same(number(1, 0)), factsOf("11", "01 00", varying, known(0), known(0)))
	wantFacts(t, "either, one block", same(copyOf(1, 0)), factsOf("11", "11 00", varying, varying, varying))
}

func TestEndsThatLeadNowhere(t *testing.T) {
	g := truths(1, 3, block(branch(0, 1, 2)), block(trap(1), number(1, 1)), block(back(2), number(2, 0)))
	wantFacts(t, "a trap and a return", g, factsOf("111", "11 00 00", varying, known(1), known(0)))
	g = truths(0, 1, block(branch(0, 1, 2), number(0, 1)), block(trap(2)), block(jump(1)))
	wantFacts(t, "a trap alone", g, factsOf("110", "10 00 00", known(1)))
}

// Where a phi stands behind two ways only those that are gone play a part.
func TestPhis(t *testing.T) {
	meet := func(choice api.Ins, a, b uint64) api.Graph {
		return graphWithChoice(choice, block(branch(1, 1, 2)), block(jump(3), number(2, a)), block(jump(3), number(3, b)), block(back(4), phi(4, 2, 3)))
	}
	wantFacts(t, "one way", meet(number(1, 1), 7, 8), factsOf("1101", "10 10 00 00", varying, known(1), known(7), unseen, known(7)))
	wantFacts(t, "the other way", meet(number(1, 0), 7, 8), factsOf("1011", "01 00 10 00", varying, known(0), unseen, known(8), known(8)))
	wantFacts(t, "either way", meet(copyOf(1, 0), 7, 8), factsOf("1111", "11 10 10 00", varying, varying, known(7), known(8), varying))
	wantFacts(t, "either way, alike", meet(copyOf(1, 0), 7, 7), factsOf("1111", "11 10 10 00", varying, varying, known(7), known(7), known(7)))
	// An argument stands for the block at its place among those ahead, which rise.
	turned := graphWithChoice(number(1, 1), block(branch(1, 3, 1)), block(jump(2), number(2, 7)), block(back(4), phi(4, 2, 3)), block(jump(2), number(3, 8)))
	wantFacts(t, "by the blocks' numbers", turned, factsOf("1011", "10 00 00 10", varying, known(1), unseen, known(8), known(8)))
	// One argument alone is there for both ends of a branch.
	straight := truths(1, 3, block(branch(0, 1, 1), number(1, 1)), block(back(2), phi(2, 1)))
	wantFacts(t, "a phi of one", straight, factsOf("11", "11 00", varying, known(1), known(1)))
}

// graphWithChoice is a graph of I64 variables, but for the parameter 0 and for the choice 1 that the entry makes.
func graphWithChoice(choice api.Ins, blocks ...api.Block) api.Graph {
	g := graphOf(api.I64, 1, 5, blocks...)
	g.Vars[0], g.Vars[1] = api.Bool, api.Bool
	g.Blocks[0].Ins = append(g.Blocks[0].Ins, choice)
	return g
}

func TestPhisOfThemselves(t *testing.T) {
	for _, w := range []uint64{0, 1} {
		g := truths(1, 4, block(jump(1), number(1, w)), block(branch(0, 1, 2), phi(2, 1, 2), phi(3, 2, 3)), block(back(3)))
		// The second phi of the block asks the first one at the end of the entry, where that is not set.
		g.Blocks[1].Ins[1].Args[0] = 1
		wantFacts(t, "phis of themselves", g, factsOf("111", "10 11 00", varying, known(w), known(w), known(w)))
	}
	swap := func(a, b uint64) api.Graph {
		return truths(1, 5, block(jump(1), number(1, a), number(2, b)), block(branch(0, 1, 2), phi(3, 1, 4), phi(4, 2, 3)), block(back(3)))
	}
	wantCells(t, "phis that change places, alike", swap(1, 1), varying, known(1), known(1), known(1), known(1))
	wantCells(t, "phis that change places", swap(0, 1), varying, known(0), known(1), varying, varying)
	// A circle of three, one of which becomes something else.
	three := func(last api.Ins) api.Graph {
		return truths(1, 6, block(jump(1), number(1, 1)), block(jump(2), phi(2, 1, 5)), block(branch(0, 2, 3), phi(3, 2, 3)), block(branch(0, 1, 4), copyOf(4, 3), last), block(back(3)))
	}
	wantCells(t, "a circle of phis", three(copyOf(5, 4)), varying, known(1), known(1), known(1), known(1), known(1))
	wantCells(t, "a circle that turns", three(not(5, 4)), varying, known(1), varying, varying, varying, varying)
	wantCells(t, "a circle that is set anew", three(number(5, 1)), varying, known(1), known(1), known(1), known(1), known(1))
	wantCells(t, "a circle that is set otherwise", three(number(5, 0)), varying, known(1), varying, varying, varying, known(0))
}

// A loop whose own condition follows of its phi: as long as the phi is known it is never left, or never gone round.
func TestLoopsThatHangOnThemselves(t *testing.T) {
	loop := func(first uint64, body api.Ins) api.Graph {
		return truths(0, 3, block(jump(1), number(0, first)), block(branch(1, 2, 3), phi(1, 0, 2)), block(jump(1), body), block(back(1)))
	}
	wantFacts(t, "never gone round", loop(0, number(2, 1)), factsOf("1101", "10 01 00 00", known(0), known(0), unseen))
	wantFacts(t, "never left", loop(1, copyOf(2, 1)), factsOf("1110", "10 10 10 00", known(1), known(1), known(1)))
	wantFacts(t, "set to the same", loop(1, number(2, 1)), factsOf("1110", "10 10 10 00", known(1), known(1), known(1)))
	wantFacts(t, "left the second time", loop(1, number(2, 0)), factsOf("1111", "10 11 10 00", known(1), varying, known(0)))
	wantFacts(t, "turned", loop(1, not(2, 1)), factsOf("1111", "10 11 10 00", known(1), varying, varying))
}

// What is found last opens a way that was closed, and what stands there changes what was known.
func TestWaysThatOpenLate(t *testing.T) {
	// As long as i is 1 the block 3 is not reached, and j stays 3.
	const i, j, next, one, is, four, three, met = 0, 1, 2, 3, 4, 5, 6, 7
	g := graphOf(api.I64, 0, 8,
		block(jump(1), number(one, 1), number(three, 3)),
		block(branch(is, 2, 3), phi(i, one, next), phi(j, three, met), op(api.OpEq, is, i, one)),
		block(jump(4)),
		block(jump(4), number(four, 4)),
		block(jump(1), phi(met, three, four), op(api.OpAdd, next, i, one)),
	)
	g.Vars[is] = api.Bool
	wantFacts(t, "opened late", g, factsOf("11111", "10 11 10 10 10", varying, varying, varying, known(1), varying, known(4), known(3), varying))
	g.Blocks[4].Ins[1].Op = api.OpMul
	wantFacts(t, "never opened", g, factsOf("11101", "10 10 10 00 10", known(1), known(3), known(1), known(1), known(1), unseen, known(3), known(3)))
}

// A row of loops, each of which is left only when the one ahead of it has become Varying.
func TestVaryingSpreadsFromLoopToLoop(t *testing.T) {
	for n := 1; n < 6; n++ {
		for _, turns := range []bool{true, false} {
			g := truths(1, 2, block(jump(1), number(1, 1)))
			last := 1
			want := []api.Cell{varying, known(1)}
			for k := range n {
				v := len(g.Vars)
				g.Vars = append(g.Vars, api.Bool, api.Bool)
				body := copyOf(v+1, v)
				if turns && k == 0 {
					body = not(v+1, v)
				}
				g.Blocks = append(g.Blocks, block(branch(0, k+1, k+2), phi(v, last, v+1), body))
				last = v
				cell := known(1)
				if turns {
					cell = varying
				}
				want = append(want, cell, cell)
			}
			g.Blocks = append(g.Blocks, block(back(last)))
			wantCells(t, "loops in a row", g, want...)
		}
	}
}

// A block whose ways in are found one by one.
func TestManyWaysIn(t *testing.T) {
	for n := 2; n < 9; n++ {
		for odd := range n + 1 {
			// Each block of a row leads on, or to the last one, with a number of its own: all alike, but for one.
			g := graphOf(api.I64, 1, 1+n)
			g.Vars[0] = api.Bool
			want := []api.Cell{varying}
			for b := range n {
				w := uint64(3)
				if b == odd {
					w = 4
				}
				want = append(want, known(w))
				end := branch(0, b+1, n)
				if b == n-1 {
					end = jump(n)
				}
				g.Blocks = append(g.Blocks, block(end, number(1+b, w)))
			}
			cell := varying
			if odd == n {
				cell = known(3)
			}
			g.Vars = append(g.Vars, api.I64)
			g.Blocks = append(g.Blocks, block(back(n+1), phi(n+1, counted(1, n+1)...)))
			wantCells(t, "many ways in", g, append(want, cell)...)
		}
	}
}

func TestAllSmallGraphs(t *testing.T) {
	entries := []api.Block{block(jump(1), number(0, 1)), block(branch(0, 1, 2), number(0, 0)), block(branch(1, 2, 1), number(0, 1)), block(branch(1, 1, 1), not(0, 1))}
	inner := []api.Ins{show(0), number(2, 1), not(2, 0), copyOf(2, 1), op(api.OpEq, 2, 0, 2), phi(2, 0), phi(2, 0, 0), phi(2, 0, 1), phi(2, 0, 2), phi(2, 2, 3), phi(2, 3, 1), phi(2, 0, 1, 3)}
	endings := []api.Term{jump(1), jump(2), branch(0, 1, 2), branch(1, 2, 1), branch(2, 1, 2), branch(3, 2, 2), back(2), trap(1)}
	var ones, twos []api.Block
	for _, ins := range inner {
		for _, end := range endings {
			ones = append(ones, block(end, ins))
			twos = append(twos, block(swapped(end), swappedIns(ins)))
		}
	}
	solved := 0
	for _, entry := range entries {
		for _, one := range ones {
			for _, two := range twos {
				g := truths(2, 4, entry, one, two)
				g.Params = row(1)
				if isSetOnce(g) {
					wantSolved(t, "a small graph", []api.Graph{g}, 0)
					solved++
				}
			}
		}
	}
	if solved < 3000 {
		t.Errorf("%d were solved", solved)
	}
}

// swapped is an end, and an instruction, with 3 in 2's place and the other way round.
func swapped(end api.Term) api.Term {
	end.Arg = swappedVars(end.Arg)[0]
	return end
}

func swappedIns(x api.Ins) api.Ins {
	if sets(x) {
		x.Dst = 5 - x.Dst
	}
	x.Args = swappedVars(x.Args...)
	return x
}

func swappedVars(l ...int) []int {
	l = slices.Clone(l)
	for i, v := range l {
		if v >= 2 {
			l[i] = 5 - v
		}
	}
	return l
}
