package gvn_test

import (
	"math"
	"slices"
	"testing"

	"smithy/api"
	"smithy/run"
	"smithy/scalar"
)

func TestCopiesOfCopies(t *testing.T) {
	for _, typ := range types {
		for _, w := range wordsOf(typ) {
			g := graphOf(typ, 0, 4, block(back(3), number(0, w), copyOf(1, 0), show(1), copyOf(2, 1), copyOf(3, 2), show(3)))
			wantBecome(t, "of a constant", g, block(back(0), number(0, w), show(0), show(0)))
		}
		g := graphOf(typ, 2, 5, block(back(4), copyOf(2, 1), copyOf(3, 0), show(3), copyOf(4, 2), show(4)))
		wantBecome(t, "of parameters", g, block(back(1), show(0), show(1)))
		g = graphOf(typ, 1, 2, block(jump(1), copyOf(1, 0)), block(jump(1), show(1)))
		wantBecome(t, "of a parameter, in another block", g, block(jump(1)), block(jump(1), show(0)))
		g = graphOf(typ, 1, 3, block(jump(1)), block(jump(2), phi(1, 0)), block(back(2), copyOf(2, 1), show(2)))
		wantBecome(t, "of a phi", g, block(jump(1)), block(jump(2), phi(1, 0)), block(back(1), show(1)))
		g = graphOf(typ, 1, 3, block(back(0), copyOf(1, 0), copyOf(2, 1)))
		wantBecome(t, "that nobody asks", g, block(back(0)))
	}
}

// Parameters stand in any order, among the other variables; they stay what they are.
func TestParametersStay(t *testing.T) {
	g := api.Graph{Name: "g", Params: row(5, 1, 3), Result: api.U8, Vars: []api.Type{api.U8, api.U8, api.Bool, api.F64, api.U8, api.Bool, api.U8}, Blocks: []api.Block{
		block(branch(5, 1, 2), copyOf(0, 1), op(api.OpAdd, 4, 0, 1), show(3)),
		block(back(0)),
		block(back(6), copyOf(2, 5), op(api.OpAdd, 6, 1, 0), show(2)),
	}}
	wantBecome(t, "parameters in any order", g, block(branch(5, 1, 2), op(api.OpAdd, 4, 1, 1), show(3)), block(back(1)), block(back(4), show(5)))
	if h := wantApplied(t, "parameters in any order", alone(g), 0); !slices.Equal(h.Params, g.Params) {
		t.Errorf("%v", h.Params)
	}
}

// All that asks a variable asks the one that holds its word: each argument of each kind, each end.
func TestWhoAsks(t *testing.T) {
	i, b, f := api.I64, api.Bool, api.F64
	g := api.Graph{Name: "g", Params: row(0, 1), Result: i, Vars: []api.Type{i, b, i, b, i, f, i, i, i, i}, Arrays: []api.Array{{Type: i, Size: 2}}, Blocks: []api.Block{
		block(branch(3, 1, 2), copyOf(2, 0), copyOf(3, 1), op(api.OpSub, 4, 2, 0), cast(5, 2), store(0, 2, 4), store(0, 4, 2)),
		block(jump(3), load(6, 0, 2)),
		block(jump(3), call(1, 7, 3, 2, 2), show(2), show(3)),
		block(back(9), phi(8, 2, 7), copyOf(9, 8), wipe(0)),
	}}
	callee := typed(0, []api.Type{i, b, i, i}, block(back(0), show(1), show(2), show(3)))
	callee.Params = row(1, 2, 0)
	want := withBlocks(g,
		block(branch(1, 1, 2), op(api.OpSub, 4, 0, 0), cast(5, 0), store(0, 0, 4), store(0, 4, 0)),
		block(jump(3), load(6, 0, 0)),
		block(jump(3), call(1, 7, 1, 0, 0), show(0), show(1)),
		block(back(8), phi(8, 0, 7), wipe(0)),
	)
	if h := wantKept(t, "all that asks", []api.Graph{g, callee}, 0); !sameGraph(h, want) {
		t.Errorf("%v becomes %v; want %v", g, h, want)
	}
}

// A phi asks a copy at the end of the block ahead, and is given what was copied.
func TestPhisThatAskCopies(t *testing.T) {
	g := truths(2, 6,
		block(branch(0, 1, 2), copyOf(2, 1)),
		block(jump(3), not(3, 2)),
		block(jump(3), copyOf(4, 2)),
		block(back(5), phi(5, 3, 4), show(5)),
	)
	wantBecome(t, "a copy of a copy for one block", g, block(branch(0, 1, 2)), block(jump(3), not(3, 1)), block(jump(3)), block(back(5), phi(5, 3, 1), show(5)))
	// The arguments become one: the phi stays, and is told its word.
	g = truths(2, 6,
		block(branch(0, 1, 2)),
		block(jump(3), copyOf(2, 1)),
		block(jump(3), copyOf(3, 1)),
		block(back(5), phi(4, 2, 3), show(4), copyOf(5, 4)),
	)
	wantBecome(t, "two copies of one", g, block(branch(0, 1, 2)), block(jump(3)), block(jump(3)), block(back(4), phi(4, 1, 1), show(4)))
	// What both sides reckon anew was reckoned ahead of them.
	g = truths(2, 8,
		block(branch(0, 1, 2), op(api.OpEq, 2, 0, 1)),
		block(jump(3), op(api.OpEq, 3, 0, 1)),
		block(jump(3), op(api.OpEq, 4, 1, 0)),
		block(back(5), phi(5, 3, 4), phi(6, 2, 2), op(api.OpAnd, 7, 5, 6)),
	)
	wantBecome(t, "reckoned anew on both sides", g, block(branch(0, 1, 2), op(api.OpEq, 2, 0, 1)), block(jump(3)), block(jump(3)), block(back(5), phi(5, 2, 2), phi(6, 2, 2), op(api.OpAnd, 7, 5, 6)))
	// On both sides only: neither stands over the other one.
	g = truths(2, 5,
		block(branch(0, 1, 2)),
		block(jump(3), op(api.OpEq, 2, 0, 1)),
		block(jump(3), op(api.OpEq, 3, 1, 0)),
		block(back(4), phi(4, 2, 3)),
	)
	wantBecome(t, "reckoned on both sides alone", g, g.Blocks...)
}

// A loop's phi asks what is set further down: a copy there, a sum that was reckoned at the head, the phi itself.
func TestPhisFromBehind(t *testing.T) {
	const n, one, i, sum, is, next, again, out = 0, 1, 2, 3, 4, 5, 6, 7
	loop := func(ins ...api.Ins) api.Graph {
		g := graphOf(api.I64, 1, 8,
			block(jump(1), number(one, 1)),
			block(branch(is, 2, 3), phi(i, one, next), op(api.OpAdd, sum, i, one), op(api.OpLt, is, i, n), show(i)),
			block(jump(1), ins...),
			block(back(out), copyOf(out, i)),
		)
		g.Vars[is] = api.Bool
		return g
	}
	head := func(next int) api.Block {
		return block(branch(is, 2, 3), phi(i, one, next), op(api.OpAdd, sum, i, one), op(api.OpLt, is, i, n), show(i))
	}
	for what, x := range map[string]struct {
		ins, left []api.Ins
		next      int
	}{
		"a copy":                     {[]api.Ins{copyOf(next, sum)}, nil, sum},
		"a copy of a copy":           {[]api.Ins{copyOf(again, sum), copyOf(next, again)}, nil, sum},
		"the same sum":               {[]api.Ins{op(api.OpAdd, next, i, one)}, nil, sum},
		"the same sum, turned":       {[]api.Ins{op(api.OpAdd, next, one, i)}, nil, sum},
		"a sum of a constant anew":   {[]api.Ins{number(again, 1), op(api.OpAdd, next, again, i)}, nil, sum},
		"the phi itself":             {[]api.Ins{copyOf(next, i)}, nil, i},
		"the first one":              {[]api.Ins{number(next, 1)}, nil, one},
		"something else":             {[]api.Ins{op(api.OpAdd, next, n, one)}, []api.Ins{op(api.OpAdd, next, n, one)}, next},
		"a sum of a copy of the phi": {[]api.Ins{copyOf(again, i), show(again), op(api.OpAdd, next, again, one)}, []api.Ins{show(i)}, sum},
	} {
		wantBecome(t, what, loop(x.ins...), block(jump(1), number(one, 1)), head(x.next), block(jump(1), x.left...), block(back(i)))
	}
	// Two phis that change places, and their copies.
	g := truths(2, 6, block(jump(1)), block(branch(2, 1, 2), phi(2, 0, 5), phi(3, 1, 4), copyOf(4, 2), copyOf(5, 3), show(4)), block(back(5)))
	wantBecome(t, "phis that change places", g, block(jump(1)), block(branch(2, 1, 2), phi(2, 0, 3), phi(3, 1, 2), show(2)), block(back(3)))
}

// What is reckoned in a loop from what does not change in it is reckoned anew each time round, unless it was ahead.
func TestLoops(t *testing.T) {
	const p, n, first, in, out, is = 0, 1, 2, 3, 4, 5
	ins := func(dst int) api.Ins { return op(api.OpMul, dst, p, n) }
	g := graphOf(api.I64, 2, 6,
		block(jump(1)),
		block(branch(is, 2, 3), op(api.OpLt, is, p, n)),
		block(jump(1), ins(in), show(in)),
		block(back(out), ins(out)),
	)
	g.Vars[is] = api.Bool
	wantBecome(t, "in the body, and behind the loop", g, g.Blocks...)
	h := copied(g)
	h.Blocks[0].Ins = []api.Ins{ins(first)}
	wantBecome(t, "ahead, in the body, and behind the loop", h, h.Blocks[0], g.Blocks[1], block(jump(1), show(first)), block(back(first)))
	h = copied(g)
	h.Blocks[1].Ins = append(h.Blocks[1].Ins, ins(first))
	wantBecome(t, "at the head, in the body, and behind the loop", h, block(jump(1)), h.Blocks[1], block(jump(1), show(first)), block(back(first)))
}

// What is alike makes what asks it alike, and so on: along a block, and from block to block.
func TestChains(t *testing.T) {
	const p, one, two, a, b, c, d, e, f = 0, 1, 2, 3, 4, 5, 6, 7, 8
	g := graphOf(api.I64, 1, 9, block(back(f),
		number(one, 1), number(two, 1),
		op(api.OpSub, a, p, one), op(api.OpSub, b, p, two),
		op(api.OpShl, c, a, b), op(api.OpShl, d, b, a),
		op(api.OpMul, e, c, d), op(api.OpMul, f, d, c), show(e)))
	wantBecome(t, "in one block", g, block(back(e), number(one, 1), op(api.OpSub, a, p, one), op(api.OpShl, c, a, a), op(api.OpMul, e, c, c), show(e)))
	g.Blocks = []api.Block{
		block(jump(3), number(one, 1)),
		block(jump(4), op(api.OpShl, c, a, b), op(api.OpShl, d, b, a)),
		block(back(f), op(api.OpMul, f, d, c)),
		block(jump(1), number(two, 1), op(api.OpSub, a, p, one), op(api.OpSub, b, p, two)),
		block(jump(2), op(api.OpMul, e, c, d), show(e)),
	}
	wantBecome(t, "from block to block", g, block(jump(3), number(one, 1)), block(jump(4), op(api.OpShl, c, a, a)), block(back(e)), block(jump(1), op(api.OpSub, a, p, one)), block(jump(2), op(api.OpMul, e, c, c), show(e)))
	// Where the first pair stands beside each other, nothing follows.
	g.Blocks = []api.Block{
		block(branch(b, 1, 2), op(api.OpEq, b, p, p)),
		block(back(c), number(one, 1), op(api.OpSub, c, p, one)),
		block(back(d), number(two, 1), op(api.OpSub, d, p, two)),
	}
	g.Vars[b] = api.Bool
	wantBecome(t, "beside each other", g, g.Blocks...)
	// Casts, operations of one, constants and copies, one behind the other.
	g = typed(1, []api.Type{api.I64, api.U8, api.U8, api.U8, api.U8, api.F64, api.F64, api.F64, api.F64}, block(jump(1), cast(1, 0), not(2, 1), cast(5, 2), op(api.OpNeg, 6, 5)), block(back(0), cast(3, 0), not(4, 3), cast(7, 4), op(api.OpNeg, 8, 7), op(api.OpEq, 9, 8, 6), show(9)))
	g.Vars = append(g.Vars, api.Bool)
	wantBecome(t, "of all kinds", g, g.Blocks[0], block(back(0), op(api.OpEq, 9, 6, 6), show(9)))
}

// A long way down, past blocks beside it that reckon the like.
func TestOverByManySteps(t *testing.T) {
	for _, far := range []int{1, 2, 3, 17, 60} {
		const p, is, first, last, shared, lowest = 0, 1, 2, 3, 4, 5
		vars := []api.Type{api.I32, api.Bool, api.I32, api.I32, api.I32, api.I32}
		blocks := []api.Block{block(jump(1), op(api.OpEq, is, p, p), op(api.OpRem, first, p, p))}
		var beside []api.Block
		own := func(i int) int { return 4 + 2*i }
		for i := 1; i <= far; i++ {
			vars = append(vars, api.I32, api.I32)
			blocks = append(blocks, block(branch(is, i+1, far+1+i), number(own(i), uint64(i))))
			// What each block beside reckons of its own does not stand over the last one, nor over one another.
			beside = append(beside, block(back(own(i)+1), number(own(i)+1, 1000)))
		}
		tail := block(back(last), op(api.OpRem, last, p, p), number(shared, 1000), number(lowest, uint64(far)), show(shared), show(lowest))
		left := block(back(first), number(shared, 1000), show(shared), show(own(far)))
		g := typed(1, vars, slices.Concat(blocks, []api.Block{tail}, beside)...)
		wantBecome(t, "far down", g, slices.Concat(blocks, []api.Block{left}, beside)...)
	}
}

// Floats are held against each other by their words: noughts of either sign are two, NaN is one.
func TestFloats(t *testing.T) {
	words := []uint64{0, minusNought, nan, float(math.Inf(1)), float(math.Inf(-1)), float(1), float(-1), float(math.SmallestNonzeroFloat64)}
	for i, a := range words {
		for j, b := range words {
			vars := slices.Repeat([]api.Type{api.F64}, 6)
			one, two := number(1, a), number(2, b)
			over, other := op(api.OpDiv, 3, 0, 1), op(api.OpDiv, 4, 0, 2)
			is := []api.Ins{show(1), show(2), show(3), show(4)}
			g := typed(1, vars, block(back(4), slices.Concat([]api.Ins{one, two, over, other}, is)...))
			if i != j {
				wantBecome(t, "two words", g, g.Blocks...)
			} else {
				wantBecome(t, "one word", g, block(back(3), one, over, show(1), show(1), show(3), show(3)))
			}
			for _, w := range words {
				for _, o := range []api.Op{api.OpAdd, api.OpMul, api.OpSub, api.OpDiv} {
					g := typed(1, vars, block(back(5), number(1, a), number(2, b), op(o, 3, 1, 2), op(o, 4, 2, 1), op(o, 5, 0, 3), show(3), show(4)))
					h := wantKept(t, "of two words", alone(g), 0)
					for steps := range 2 {
						wantSameRun(t, "of two words", alone(g), alone(h), 0, []uint64{w}, steps, 1)
					}
				}
			}
		}
	}
}

// What is said alike is told alike: each operation and cast on words of each type, once and twice.
func TestWords(t *testing.T) {
	for o := api.OpAdd; o <= api.OpNot; o++ {
		for _, typ := range types {
			result, ok := scalar.Of(o, typ)
			if !ok {
				continue
			}
			args, turned := row(0, 1), row(1, 0)
			if o >= api.OpNeg {
				args, turned = row(1), row(1)
			}
			g := typed(2, []api.Type{typ, typ, result, result, result}, block(back(0), op(o, 2, args...), op(o, 3, turned...), op(o, 4, args...), show(2), show(3), show(4)))
			h := wantApplied(t, "an operation", alone(g), 0)
			for _, a := range wordsOf(typ) {
				for _, b := range wordsOf(typ) {
					wantSameRun(t, "an operation", alone(g), alone(h), 0, []uint64{a, b}, 1, 1)
				}
			}
		}
	}
	for _, from := range types[1:] {
		for _, to := range types[1:] {
			g := typed(1, []api.Type{from, to, to, from}, block(back(3), cast(1, 0), cast(2, 0), cast(3, 2), show(1), show(2)))
			h := wantApplied(t, "a cast", alone(g), 0)
			if countIns(h, api.InsCast) != 2 {
				t.Errorf("%v becomes %v", g, h)
			}
			for _, w := range wordsOf(from) {
				wantSameRun(t, "a cast", alone(g), alone(h), 0, []uint64{w}, 1, 1)
			}
		}
	}
}

// A run of what is told takes the steps of the blocks alone, of which none has gone.
func TestNoBlockGoes(t *testing.T) {
	g := truths(1, 4, block(branch(1, 1, 2), copyOf(1, 0)), block(jump(2), copyOf(2, 1)), block(jump(3)), block(back(3), copyOf(3, 0)))
	wantBecome(t, "blocks of nothing but copies", g, block(branch(0, 1, 2)), block(jump(2)), block(jump(3)), block(back(0)))
	for w := range uint64(2) {
		trace, e := run.Run(alone(wantApplied(t, "blocks of nothing but copies", alone(g), 0)), 0, []uint64{w}, 9, 1)
		if e != api.OK || trace.Steps != 3+int(w) || trace.Value != w {
			t.Errorf("%v, %d", trace, e)
		}
	}
}
