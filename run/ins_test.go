package run_test

import (
	"math"
	"testing"

	"smithy/api"
	"smithy/scalar"
)

// wantTold asks what a graph tells that sets its variable 2, of the type result, by one instruction from the variables 0 and 1, of the type of.
func wantTold(t *testing.T, what string, x api.Ins, of, result api.Type, args []uint64, want uint64) {
	t.Helper()
	g := api.Graph{Params: []int{0, 1}, Result: result, Vars: []api.Type{of, of, result}, Blocks: []api.Block{block(back(2), x, show(2))}}
	wantRun(t, what, []api.Graph{g}, args, 1, 1, told(want, 1, 1, api.Show{Type: result, Bits: want}))
}

// Each operation of each type tells scalar's word, also where a source would trap.
func TestOperations(t *testing.T) {
	asked := 0
	for o := api.OpAdd; o <= api.OpNot; o++ {
		for _, u := range types {
			result, ok := scalar.Of(o, u)
			if !ok {
				continue
			}
			for _, a := range wordsOf(u) {
				for _, b := range wordsOf(u) {
					x, want := op(o, 2, 0, 1), uint64(0)
					if o == api.OpNeg || o == api.OpNot {
						x = op(o, 2, 0)
						want, _ = scalar.One(o, u, a)
					} else {
						want, _ = scalar.Two(o, u, a, b)
					}
					wantTold(t, "an operation", x, u, result, []uint64{a, b}, want)
					asked++
				}
			}
		}
	}
	if asked < 5000 {
		t.Errorf("%d operations", asked)
	}
}

// Some that can be reckoned by heart: the first operand is the first one, and the type is that of the operands.
func TestOperationsByHeart(t *testing.T) {
	for _, c := range []struct {
		op      api.Op
		of, out api.Type
		a, b    uint64
		want    uint64
	}{
		{api.OpAdd, api.U8, api.U8, 200, 100, 44}, {api.OpAdd, api.I64, api.I64, 200, 100, 300}, {api.OpSub, api.I64, api.I64, 5, 7, minus(2)}, {api.OpSub, api.U8, api.U8, 5, 7, 254},
		{api.OpDiv, api.I64, api.I64, minus(7), 2, minus(3)}, {api.OpRem, api.I32, api.I32, minus(7), 2, minus(1)}, {api.OpDiv, api.F64, api.F64, bits(1), bits(4), bits(0.25)},
		{api.OpShl, api.U8, api.U8, 1, 9, 2}, {api.OpShr, api.I32, api.I32, minus(5), 1, minus(3)}, {api.OpLt, api.U8, api.Bool, 100, 200, 1}, {api.OpGt, api.U8, api.Bool, 100, 200, 0},
		{api.OpLt, api.F64, api.Bool, bits(-1), bits(1), 1}, {api.OpEq, api.F64, api.Bool, 0, 1 << 63, 1}, {api.OpXor, api.Bool, api.Bool, 1, 1, 0}, {api.OpMul, api.I32, api.I32, 65536, 65536, 0},
		// Whole, where a source traps.
		{api.OpDiv, api.I64, api.I64, 5, 0, 0}, {api.OpRem, api.I64, api.I64, 5, 0, 0}, {api.OpDiv, api.I32, api.I32, 5, 0, 0}, {api.OpRem, api.I32, api.I32, 5, 0, 0},
		{api.OpDiv, api.U8, api.U8, 5, 0, 0}, {api.OpRem, api.U8, api.U8, 5, 0, 0}, {api.OpDiv, api.I64, api.I64, 1 << 63, minus(1), 1 << 63}, {api.OpRem, api.I64, api.I64, 1 << 63, minus(1), 0},
		{api.OpDiv, api.F64, api.F64, bits(5), 0, bits(math.Inf(1))}, {api.OpDiv, api.F64, api.F64, 0, 0, 0x7ff8000000000000},
	} {
		wantTold(t, "an operation of two", op(c.op, 2, 0, 1), c.of, c.out, []uint64{c.a, c.b}, c.want)
	}
	wantTold(t, "a negation", op(api.OpNeg, 2, 0), api.U8, api.U8, words(1, 0), 255)
	wantTold(t, "a negation of a float", op(api.OpNeg, 2, 0), api.F64, api.F64, words(0, 0), 1<<63)
	wantTold(t, "the other truth", op(api.OpNot, 2, 0), api.Bool, api.Bool, words(0, 0), 1)
	wantTold(t, "all bits turned", op(api.OpNot, 2, 0), api.I32, api.I32, words(0, 0), minus(1))
}

func TestCasts(t *testing.T) {
	for _, from := range types[1:] {
		for _, to := range types[1:] {
			for _, w := range wordsOf(from) {
				want, _ := scalar.Turn(to, from, w)
				wantTold(t, "a cast", cast(2, 0), from, to, []uint64{w, 0}, want)
			}
		}
	}
	wantTold(t, "cut", cast(2, 0), api.I64, api.U8, []uint64{minus(1), 0}, 255)
	wantTold(t, "a float's whole part", cast(2, 0), api.F64, api.I32, []uint64{bits(-2.9), 0}, minus(2))
	wantTold(t, "a float", cast(2, 0), api.I64, api.F64, []uint64{1<<53 + 1, 0}, bits(1<<53))
	// Whole, where a source traps.
	for _, w := range []uint64{bits(256), bits(-1), bits(math.Inf(1)), bits(math.Inf(-1)), 0x7ff8000000000000, bits(1e300)} {
		wantTold(t, "what does not fit", cast(2, 0), api.F64, api.U8, []uint64{w, 0}, 0)
	}
	wantTold(t, "what does not fit", cast(2, 0), api.F64, api.I64, []uint64{bits(1 << 63), 0}, 0)
	wantTold(t, "what does not fit", cast(2, 0), api.F64, api.I32, []uint64{bits(1 << 31), 0}, 0)
}

func TestConstantsAndCopies(t *testing.T) {
	for _, u := range types {
		for _, w := range wordsOf(u) {
			wantTold(t, "a constant", constant(2, w), u, u, []uint64{0, 0}, w)
			wantTold(t, "a copy", copyOf(2, 1), u, u, []uint64{0, w}, w)
		}
	}
	wantShows(t, "set again", words(5), []api.Ins{constant(0, 1), show(0), constant(0, 2), show(0), copyOf(1, 0), constant(0, 3), show(1), show(0)}, 1, 2, 2, 3)
}

// What is printed is shown with the type of its variable.
func TestPrints(t *testing.T) {
	g := api.Graph{Result: api.Bool, Vars: types, Blocks: []api.Block{block(back(0),
		constant(0, 1), constant(1, 255), constant(2, minus(5)), constant(3, minus(6)), constant(4, bits(1.5)), show(4), show(0), show(2), show(1), show(3), show(3))}}
	wantRun(t, "prints", []api.Graph{g}, nil, 1, 1, told(1, 1, 1, api.Show{Type: api.F64, Bits: bits(1.5)}, api.Show{Type: api.Bool, Bits: 1}, api.Show{Type: api.I32, Bits: minus(5)},
		api.Show{Type: api.U8, Bits: 255}, api.Show{Type: api.I64, Bits: minus(6)}, api.Show{Type: api.I64, Bits: minus(6)}))
}

// An instruction may set what it is made of.
func TestDstAmongArgs(t *testing.T) {
	wantShows(t, "operations", words(5, 3), []api.Ins{op(api.OpSub, 0, 0, 1), show(0), op(api.OpSub, 1, 0, 1), show(1), op(api.OpAdd, 1, 1, 1), show(1), op(api.OpNeg, 1, 1), show(1), cast(1, 1), show(1), copyOf(1, 1), show(1)}, 2, -1, -2, 2, 2, 2)
	wantShows(t, "an element and its index", words(2, 7), []api.Ins{store(0, 0, 1), load(0, 0, 0), show(0), constant(1, 1), store(0, 1, 1), load(1, 0, 1), show(1)}, 7, 1)
}

// Variables are 0 of their type till they are set, but for the parameters.
func TestVariablesThatWereNotSet(t *testing.T) {
	for _, u := range types {
		g := api.Graph{Result: u, Vars: []api.Type{u, u}, Blocks: []api.Block{block(back(1), show(0), copyOf(1, 0), show(1))}}
		wantRun(t, "not set", []api.Graph{g}, nil, 1, 1, told(0, 1, 1, api.Show{Type: u}, api.Show{Type: u}))
	}
	wantShows(t, "in operations", words(5), []api.Ins{op(api.OpAdd, 1, 0, 2), show(1), op(api.OpNot, 3, 4), show(3), op(api.OpSub, 3, 5, 0), show(3), load(6, 0, 7), show(6), store(0, 7, 0), load(6, 0, 8), show(6)}, 5, -1, -5, 0, 5)
	// One that another block would have set.
	p := []api.Graph{numbers(0, block(branch(truth, 1, 2)), block(jump(2), constant(0, 7)), block(back(0)))}
	wantRun(t, "set elsewhere", p, nil, many, 1, told(0, 2, 1))
	// Set by a block that comes round again.
	p = []api.Graph{numbers(0, block(jump(1)), block(branch(truth, 2, 1), show(0), constant(0, 7), copyOf(truth, 8), constant(8, 1)), block(back(0)))}
	p[0].Vars[8] = api.Bool
	wantRun(t, "set behind its use", p, nil, many, 1, told(7, 4, 1, whole(0, 7)...))
}
