package fold_test

import (
	"math"
	"slices"
	"testing"

	"smithy/api"
	"smithy/run"
	"smithy/scalar"
)

func TestConstantsAndCopies(t *testing.T) {
	for _, typ := range types {
		for _, w := range wordsOf(typ) {
			g := graphOf(typ, 0, 3, block(back(2), number(0, w), copyOf(1, 0), show(1), copyOf(2, 1)))
			wantBecome(t, "a constant, copied", g, block(back(2), number(0, w), number(1, w), show(1), number(2, w)))
		}
		g := graphOf(typ, 1, 3, block(back(2), copyOf(1, 0), show(1), copyOf(2, 1)))
		wantBecome(t, "a parameter, copied", g, g.Blocks...)
	}
}

func TestNothingIsSet(t *testing.T) {
	for what, g := range map[string]api.Graph{
		"no variable":                     {Name: "g", Result: api.U8, Blocks: []api.Block{block(trap(3))}},
		"no variable, a circle":           {Result: api.F64, Blocks: []api.Block{block(jump(1)), block(jump(1))}},
		"no variable, an array":           {Result: api.U8, Arrays: []api.Array{{Type: api.F64, Size: 2}}, Blocks: []api.Block{block(jump(1), wipe(0)), block(trap(1), wipe(0))}},
		"variables that nobody sets":      truths(1, 4, block(back(0))),
		"parameters that nobody asks":     truths(2, 2, block(trap(1))),
		"a parameter that is told, twice": truths(1, 1, block(branch(0, 1, 2)), block(back(0)), block(back(0))),
	} {
		wantBecome(t, what, g, g.Blocks...)
	}
}

// told is what a graph tells when it is run.
func told(t *testing.T, g api.Graph, words ...uint64) uint64 {
	t.Helper()
	trace, e := run.Run(alone(g), 0, words, 9, 1)
	if e != api.OK || trace.End != api.Told {
		t.Fatalf("%v of %v: %v, %d", g, words, trace, e)
	}
	return trace.Value
}

// Each operation on words of each type becomes what it tells in a run; one of a parameter stays.
func TestOperations(t *testing.T) {
	for o := api.OpAdd; o <= api.OpNot; o++ {
		for _, typ := range types {
			result, ok := scalar.Of(o, typ)
			if !ok {
				continue
			}
			for _, a := range wordsOf(typ) {
				for _, b := range wordsOf(typ) {
					wantOperation(t, o, typ, result, a, b)
				}
			}
		}
	}
}

func wantOperation(t *testing.T, o api.Op, typ, result api.Type, a, b uint64) {
	t.Helper()
	const first, second, param, r, one = 0, 1, 2, 3, 4
	args := func(l ...int) []int {
		if o == api.OpNeg || o == api.OpNot {
			return l[1:]
		}
		return l
	}
	stays := op(o, one, args(first, param)...)
	g := graphOf(typ, 0, 5, block(back(r), number(first, a), number(second, b), op(o, r, args(first, second)...), stays, show(one)))
	g.Params, g.Result = row(param), result
	g.Vars[r], g.Vars[one] = result, result
	wantBecome(t, "an operation", g, block(back(r), number(first, a), number(second, b), number(r, told(t, g, a)), stays, show(one)))
}

func TestCasts(t *testing.T) {
	for _, from := range types[1:] {
		for _, to := range types[1:] {
			for _, w := range wordsOf(from) {
				g := api.Graph{Name: "g", Params: row(2), Result: to, Vars: []api.Type{from, to, from, to}, Blocks: []api.Block{block(back(1), number(0, w), cast(1, 0), cast(3, 2), show(3))}}
				wantBecome(t, "a cast", g, block(back(1), number(0, w), number(1, told(t, g, w)), cast(3, 2), show(3)))
			}
		}
	}
}

// wantMade asks for what becomes of an operation, or a cast, of words that are known.
func wantMade(t *testing.T, what string, want uint64, typ, result api.Type, ins api.Ins, words ...uint64) {
	t.Helper()
	n := len(words)
	g := graphOf(typ, 0, n+1)
	g.Vars[n], g.Result = result, result
	var consts []api.Ins
	for v, w := range words {
		consts = append(consts, number(v, w))
	}
	ins.Dst, ins.Args = n, counted(0, n)
	g.Blocks = []api.Block{block(back(n), append(slices.Clone(consts), ins)...)}
	wantBecome(t, what, g, block(back(n), append(consts, number(n, want))...))
}

// What a source may not do is whole in graphs, and is written down as that.
func TestWholeOperations(t *testing.T) {
	for _, typ := range []api.Type{api.U8, api.I32, api.I64} {
		wantMade(t, "5 over 0", 0, typ, typ, op(api.OpDiv, 0), 5, 0)
		wantMade(t, "the rest of 5 over 0", 0, typ, typ, op(api.OpRem, 0), 5, 0)
		wantMade(t, "NaN", 0, api.F64, typ, cast(0, 0), nan)
		wantMade(t, "far too great", 0, api.F64, typ, cast(0, 0), float(1e300))
		wantMade(t, "-0.9", 0, api.F64, typ, cast(0, 0), float(-0.9))
	}
	wantMade(t, "200 + 100", 44, api.U8, api.U8, op(api.OpAdd, 0), 200, 100)
	wantMade(t, "the least over -1", 1<<63, api.I64, api.I64, op(api.OpDiv, 0), 1<<63, whole(-1))
	wantMade(t, "256.0", 0, api.F64, api.U8, cast(0, 0), float(256))
	wantMade(t, "-1 as one of 8 bits", 255, api.I64, api.U8, cast(0, 0), whole(-1))
}

// Where a trap is asked ahead of the operation, the asking goes, and the trap or the operation behind it.
func TestTrapsThatAreAsked(t *testing.T) {
	const zero, by, is, quotient, seven = 0, 1, 2, 3, 4
	guarded := func(divisor api.Ins) api.Graph {
		g := graphOf(api.I64, 0, 6,
			block(branch(is, 1, 2), number(zero, 0), number(seven, 7), divisor, op(api.OpEq, is, by, zero), show(seven)),
			block(trap(api.TrapZero)),
			block(back(quotient), op(api.OpDiv, quotient, seven, by)),
		)
		g.Params, g.Vars[is] = row(5), api.Bool
		return g
	}
	g := guarded(number(by, 0))
	wantBecome(t, "by 0", g, block(jump(1), number(zero, 0), number(seven, 7), number(by, 0), number(is, 1), show(seven)), block(trap(api.TrapZero)))
	g = guarded(number(by, 2))
	wantBecome(t, "by 2", g, block(jump(1), number(zero, 0), number(seven, 7), number(by, 2), number(is, 0), show(seven)), block(back(quotient), number(quotient, 3)))
	g = guarded(copyOf(by, 5))
	wantBecome(t, "by a parameter", g, g.Blocks...)
}

func TestFloats(t *testing.T) {
	inf := float(math.Inf(1))
	wantMade(t, "0 over 0", nan, api.F64, api.F64, op(api.OpDiv, 0), 0, 0)
	wantMade(t, "1 over 0", inf, api.F64, api.F64, op(api.OpDiv, 0), float(1), 0)
	wantMade(t, "1 over -0", inf|1<<63, api.F64, api.F64, op(api.OpDiv, 0), float(1), minusNought)
	wantMade(t, "infinity less itself", nan, api.F64, api.F64, op(api.OpSub, 0), inf, inf)
	wantMade(t, "NaN and 1", nan, api.F64, api.F64, op(api.OpAdd, 0), nan, float(1))
	wantMade(t, "-NaN", nan, api.F64, api.F64, op(api.OpNeg, 0), nan)
	wantMade(t, "-0", minusNought, api.F64, api.F64, op(api.OpNeg, 0), 0)
	wantMade(t, "NaN == NaN", 0, api.F64, api.Bool, op(api.OpEq, 0), nan, nan)
	wantMade(t, "NaN != NaN", 1, api.F64, api.Bool, op(api.OpNe, 0), nan, nan)
	wantMade(t, "0 == -0", 1, api.F64, api.Bool, op(api.OpEq, 0), 0, minusNought)
	// Words are held against each other, not numbers: a NaN is like itself, and noughts of two signs are unlike.
	for _, c := range []struct {
		a, b uint64
		same bool
	}{{nan, nan, true}, {0, minusNought, false}, {0, 0, true}, {minusNought, minusNought, true}, {inf, inf, true}, {inf, inf | 1<<63, false}} {
		g := graphOf(api.F64, 0, 4, block(branch(3, 1, 2)), block(jump(3), number(0, c.a)), block(jump(3), number(1, c.b)), block(back(2), phi(2, 0, 1)))
		g.Params, g.Vars[3] = row(3), api.Bool
		want := slices.Clone(g.Blocks)
		if c.same {
			want[3] = block(back(2), number(2, c.a))
		}
		wantBecome(t, "a phi of floats", g, want...)
	}
}

// What is not known stays, however plain it is; so does what something else hangs on.
func TestWhatStays(t *testing.T) {
	g := graphOf(api.I64, 1, 6, block(back(1), number(1, 0), op(api.OpMul, 2, 0, 1), op(api.OpXor, 3, 0, 0), op(api.OpSub, 4, 0, 0), op(api.OpAnd, 5, 1, 0)))
	wantBecome(t, "0 times a parameter", g, g.Blocks...)
	// The variable 0 is known: what names no variable says 0 there, and must stay as it is.
	const zero, five, first, second, loaded, called, copied = 0, 1, 2, 3, 4, 5, 6
	g = graphOf(api.I64, 0, 7, block(back(copied),
		number(zero, 0), number(five, 5), wipe(0), load(first, 0, zero), store(0, zero, five), show(five), load(second, 0, zero), load(loaded, 1, five),
		call(1, called, first, five), show(called), wipe(1), store(1, five, zero), copyOf(copied, second)))
	g.Arrays = []api.Array{{Type: api.I64, Size: 1}, {Type: api.I64, Size: 6}}
	callee := graphOf(api.I64, 2, 3, block(back(2), show(0), op(api.OpSub, 2, 1, 0)))
	p := []api.Graph{g, callee}
	if h := wantFolded(t, "loads, stores, clears, calls, prints", p, 0); !sameGraph(h, g) {
		t.Errorf("%v becomes %v", g, h)
	}
	if h := wantFolded(t, "one that is called", p, 1); !sameGraph(h, callee) {
		t.Errorf("%v becomes %v", callee, h)
	}
}

func TestBranches(t *testing.T) {
	fork := func(ins ...api.Ins) api.Graph {
		return truths(1, 4, block(branch(1, 1, 2), ins...), block(back(2), number(2, 0)), block(back(3), number(3, 1)))
	}
	wantBecome(t, "true", fork(number(1, 1)), block(jump(1), number(1, 1)), block(back(2), number(2, 0)))
	wantBecome(t, "false", fork(number(1, 0)), block(jump(1), number(1, 0)), block(back(3), number(3, 1)))
	wantBecome(t, "either", fork(not(1, 0)), fork(not(1, 0)).Blocks...)
	wantBecome(t, "of a parameter", fork(copyOf(1, 0), show(1)), fork(copyOf(1, 0), show(1)).Blocks...)
	same := func(ins api.Ins, last ...api.Ins) api.Graph {
		return truths(1, 3, block(branch(1, 1, 1), ins), block(back(2), last...))
	}
	wantBecome(t, "true, one block", same(number(1, 1), phi(2, 0)), block(jump(1), number(1, 1)), block(back(2), phi(2, 0)))
	wantBecome(t, "false, one block", same(number(1, 0), phi(2, 0)), block(jump(1), number(1, 0)), block(back(2), phi(2, 0)))
	wantBecome(t, "true, one block, its phi known", same(number(1, 1), phi(2, 1)), block(jump(1), number(1, 1)), block(back(2), number(2, 1)))
	wantBecome(t, "either, one block", same(copyOf(1, 0), phi(2, 0)), same(copyOf(1, 0), phi(2, 0)).Blocks...)
	wantBecome(t, "either, one block, no phi", same(not(1, 0), copyOf(2, 0)), same(not(1, 0), copyOf(2, 0)).Blocks...)
}

// Both To of one block are one edge, beside which another block may stand ahead.
func TestBothToBesideAnother(t *testing.T) {
	shape := func(ins ...api.Ins) api.Graph {
		return truths(2, 5, block(branch(0, 1, 2)), block(branch(2, 3, 3), ins...), block(jump(3)), block(back(3), phi(3, 1, 0), phi(4, 0, 0)))
	}
	wantBecome(t, "either", shape(not(2, 0)), shape(not(2, 0)).Blocks...)
	for _, w := range []uint64{0, 1} {
		g := shape(number(2, w))
		want := slices.Clone(g.Blocks)
		want[1] = block(jump(3), number(2, w))
		wantBecome(t, "known", g, want...)
	}
}

// Where a phi stands behind two ways only those that are gone play a part.
func TestPhis(t *testing.T) {
	// 0: the parameter, 1: the choice, 2 and 3: what the two ways hand on, 4: the phi of these, 5: one of the parameter, which nobody knows.
	meet := func(choice api.Ins, a, b api.Ins) api.Graph {
		return truths(1, 6, block(branch(1, 1, 2), choice), block(jump(3), a), block(jump(3), b), block(back(4), phi(4, 2, 3), phi(5, 0, 0)))
	}
	wantBecome(t, "one way, known", meet(number(1, 1), number(2, 1), number(3, 0)),
		block(jump(1), number(1, 1)), block(jump(2), number(2, 1)), block(back(4), phi(5, 0), number(4, 1)))
	wantBecome(t, "the other way, known", meet(number(1, 0), number(2, 1), number(3, 0)),
		block(jump(1), number(1, 0)), block(jump(2), number(3, 0)), block(back(4), phi(5, 0), number(4, 0)))
	wantBecome(t, "one way", meet(number(1, 1), not(2, 0), number(3, 0)),
		block(jump(1), number(1, 1)), block(jump(2), not(2, 0)), block(back(4), phi(4, 2), phi(5, 0)))
	wantBecome(t, "the other way", meet(number(1, 0), not(2, 0), not(3, 0)),
		block(jump(1), number(1, 0)), block(jump(2), not(3, 0)), block(back(4), phi(4, 3), phi(5, 0)))
	g := meet(copyOf(1, 0), number(2, 1), number(3, 1))
	wantBecome(t, "either way, alike", g, g.Blocks[0], g.Blocks[1], g.Blocks[2], block(back(4), phi(5, 0, 0), number(4, 1)))
	g = meet(copyOf(1, 0), number(2, 1), number(3, 0))
	wantBecome(t, "either way", g, g.Blocks...)
}

// Of many ways in those go that are not gone: arguments go with them, and the others keep their order.
func TestPhisOfWhichEdgesGo(t *testing.T) {
	const n = 4
	for mask := range 1 << n {
		// A row of blocks: each leads on, or to the last one; which way is known of those in the mask.
		g := truths(2, 2)
		var want []api.Block
		var args, still []int
		for b := range n {
			v, handed := len(g.Vars), len(g.Vars)+1
			g.Vars = append(g.Vars, api.Bool, api.Bool)
			ins, turned := []api.Ins{not(v, 0), not(handed, 1)}, []api.Ins{not(v, 0), not(handed, 1)}
			args = append(args, handed)
			end := branch(v, b+1, n+1)
			if mask>>b&1 == 1 {
				ins[0], turned[0], end = number(v, 1), number(v, 1), jump(b+1)
			} else {
				still = append(still, handed)
			}
			g.Blocks = append(g.Blocks, block(branch(v, b+1, n+1), ins...))
			want = append(want, block(end, turned...))
		}
		v := len(g.Vars)
		g.Vars = append(g.Vars, api.Bool, api.Bool)
		g.Blocks = append(g.Blocks, block(jump(n+1), not(v+1, 0)), block(back(v), phi(v, append(args, v+1)...), show(v)))
		want = append(want, g.Blocks[n], block(back(v), phi(v, append(still, v+1)...), show(v)))
		wantBecome(t, "some edges go", g, want...)
	}
}

func TestPhisOfThemselves(t *testing.T) {
	for _, w := range []uint64{0, 1} {
		g := truths(1, 4, block(jump(1), number(1, w)), block(branch(0, 1, 2), phi(2, 1, 2), phi(3, 1, 3)), block(back(3)))
		wantBecome(t, "phis of themselves", g, g.Blocks[0], block(branch(0, 1, 2), number(2, w), number(3, w)), g.Blocks[2])
	}
	own := truths(2, 3, block(jump(1)), block(branch(0, 1, 2), phi(2, 1, 2)), block(back(2)))
	wantBecome(t, "a phi of a parameter and itself", own, own.Blocks...)
	swap := func(a, b uint64) api.Graph {
		return truths(1, 5, block(jump(1), number(1, a), number(2, b)), block(branch(0, 1, 2), phi(3, 1, 4), phi(4, 2, 3), show(3), show(4)), block(back(3)))
	}
	g := swap(1, 1)
	wantBecome(t, "phis that change places, alike", g, g.Blocks[0], block(branch(0, 1, 2), number(3, 1), number(4, 1), show(3), show(4)), g.Blocks[2])
	wantBecome(t, "phis that change places", swap(0, 1), swap(0, 1).Blocks...)
	// A circle of phis, of which one becomes something else, or none.
	three := func(last api.Ins) api.Graph {
		return truths(1, 6, block(jump(1), number(1, 1)), block(jump(2), phi(2, 1, 5)), block(branch(0, 2, 3), phi(3, 2, 3)), block(branch(0, 1, 4), copyOf(4, 3), last), block(back(3)))
	}
	g = three(copyOf(5, 4))
	wantBecome(t, "a circle of phis", g, g.Blocks[0], block(jump(2), number(2, 1)), block(branch(0, 2, 3), number(3, 1)), block(branch(0, 1, 4), number(4, 1), number(5, 1)), g.Blocks[4])
	g = three(not(5, 4))
	wantBecome(t, "a circle that turns", g, g.Blocks...)
}

// Phis that are known beside phis that stay, in each order: those that stay come first, whose arguments ask the others.
func TestKnownPhisBesideOthers(t *testing.T) {
	for mask := range 1 << 4 {
		// 0: the choice, 1: a parameter, 2: 1; a phi that is known is one of 2 and itself, one that stays of 2 and what stands ahead of it.
		g := truths(2, 3, block(jump(1), number(2, 1)))
		var phis, stay, known []api.Ins
		for i := range 4 {
			v := len(g.Vars)
			g.Vars = append(g.Vars, api.Bool)
			x := phi(v, 2, v)
			if mask>>i&1 == 1 {
				known = append(known, number(v, 1))
			} else {
				x = phi(v, 1, v-1)
				stay = append(stay, x)
			}
			phis = append(phis, x)
		}
		rest := []api.Ins{show(3), show(4), show(5), show(6)}
		g.Blocks = append(g.Blocks, block(branch(0, 1, 2), append(phis, rest...)...), block(back(6)))
		wantBecome(t, "phis that are known beside others", g, g.Blocks[0], block(branch(0, 1, 2), slices.Concat(stay, known, rest)...), g.Blocks[2])
	}
}

// A loop whose own condition follows of its phi.
func TestLoopsThatHangOnThemselves(t *testing.T) {
	loop := func(first uint64, body api.Ins) api.Graph {
		return truths(0, 3, block(jump(1), number(0, first)), block(branch(1, 2, 3), phi(1, 0, 2), show(1)), block(jump(1), body), block(back(1)))
	}
	wantBecome(t, "never gone round", loop(0, number(2, 1)), block(jump(1), number(0, 0)), block(jump(2), number(1, 0), show(1)), block(back(1)))
	wantBecome(t, "never left", loop(1, copyOf(2, 1)), block(jump(1), number(0, 1)), block(jump(2), number(1, 1), show(1)), block(jump(1), number(2, 1)))
	wantBecome(t, "left the second time", loop(1, number(2, 0)), loop(1, number(2, 0)).Blocks...)
	wantBecome(t, "turned", loop(1, not(2, 1)), loop(1, not(2, 1)).Blocks...)
	// A block that leads to itself alone.
	g := truths(0, 2, block(jump(1), number(0, 1)), block(branch(1, 1, 2), phi(1, 0, 1), show(1)), block(back(1)))
	wantBecome(t, "itself alone", g, block(jump(1), number(0, 1)), block(jump(1), number(1, 1), show(1)))
}

// Blocks that are not reached lead to blocks that are; what they hand to phis goes with them.
func TestBlocksThatGo(t *testing.T) {
	// The block 1 is not reached, nor are 2 and 3 behind it, which go round; all of them lead to 5.
	g := truths(1, 7,
		block(branch(1, 4, 1), number(1, 1)),
		block(branch(0, 2, 5), not(2, 0)),
		block(branch(0, 3, 5), not(3, 2)),
		block(branch(0, 2, 5), copyOf(4, 3)),
		block(branch(0, 5, 6), not(5, 0)),
		block(back(6), phi(6, 2, 3, 4, 5)),
		block(trap(2), show(5)),
	)
	wantBecome(t, "some that lead to one that stays", g,
		block(jump(1), number(1, 1)),
		block(branch(0, 2, 3), not(5, 0)),
		block(back(6), phi(6, 5)),
		block(trap(2), show(5)),
	)
	// A loop that is left alone: nothing leads into it any more, but it leads to what stays.
	g = truths(1, 5,
		block(branch(1, 3, 1), number(1, 1)),
		block(branch(0, 2, 3), phi(2, 0, 3)),
		block(branch(0, 1, 3), not(3, 2)),
		block(back(4), phi(4, 0, 2, 3)),
	)
	wantBecome(t, "a loop that is left alone", g, block(jump(1), number(1, 1)), block(back(4), phi(4, 0)))
	// Of a loop with two ways in one goes.
	g = truths(1, 4,
		block(branch(1, 2, 1), number(1, 0)),
		block(jump(3)),
		block(jump(3)),
		block(branch(0, 3, 4), phi(2, 0, 1, 3), not(3, 2)),
		block(back(3)),
	)
	wantBecome(t, "a way into a loop", g,
		block(jump(1), number(1, 0)),
		block(jump(2)),
		block(branch(0, 2, 3), phi(2, 0, 3), not(3, 2)),
		block(back(3)),
	)
}

// What is found last opens a way that was closed: then nothing is known of it.
func TestWaysThatOpenLate(t *testing.T) {
	const i, j, next, one, is, four, three, met = 0, 1, 2, 3, 4, 5, 6, 7
	g := graphOf(api.I64, 0, 8,
		block(jump(1), number(one, 1), number(three, 3)),
		block(branch(is, 2, 3), phi(i, one, next), phi(j, three, met), op(api.OpEq, is, i, one), show(j)),
		block(jump(4)),
		block(jump(4), number(four, 4)),
		block(jump(1), phi(met, three, four), op(api.OpAdd, next, i, one)),
	)
	g.Vars[is] = api.Bool
	wantBecome(t, "opened late", g, g.Blocks...)
	g.Blocks[4].Ins[1].Op = api.OpMul
	wantBecome(t, "never opened", g,
		g.Blocks[0],
		block(jump(2), number(i, 1), number(j, 3), number(is, 1), show(j)),
		block(jump(3)),
		block(jump(1), number(met, 3), number(next, 1)),
	)
}
