package scalar_test

import (
	"math"
	"math/big"
	"testing"

	"smithy/api"
	"smithy/scalar"
)

// wantOf is the chapter's table: the types an operation takes, and whether it tells a truth.
func wantOf(op api.Op, u api.Type) (api.Type, bool) {
	bits := []api.Type{api.Bool, api.U8, api.I32, api.I64}
	rows := []struct {
		ops   []api.Op
		types []api.Type
		truth bool
	}{
		{[]api.Op{api.OpAdd, api.OpSub, api.OpMul, api.OpDiv, api.OpNeg}, numbers, false},
		{[]api.Op{api.OpRem, api.OpShl, api.OpShr}, wholeTypes, false},
		{[]api.Op{api.OpAnd, api.OpOr, api.OpXor, api.OpNot}, bits, false},
		{[]api.Op{api.OpEq, api.OpNe}, allTypes, true},
		{[]api.Op{api.OpLt, api.OpLe, api.OpGt, api.OpGe}, numbers, true},
	}
	for _, r := range rows {
		if !has(r.ops, op) || !has(r.types, u) {
			continue
		}
		if r.truth {
			return api.Bool, true
		}
		return u, true
	}
	return api.NoType, false
}

// P1.2: Of at every operation and every type, those that are none among them; Two and One tell something just where it says so.
func TestOfEverywhere(t *testing.T) {
	for i := range 256 {
		for j := range 256 {
			op, u := api.Op(i), api.Type(j)
			want, ok := wantOf(op, u)
			if got, gotOK := scalar.Of(op, u); got != want || gotOK != ok {
				t.Errorf("Of(%d, %d) = %d, %v", op, u, got, gotOK)
			}
			one := has(oneOps, op)
			if w, got := scalar.Two(op, u, 1, 1); got != (ok && !one) || !got && w != 0 {
				t.Errorf("Two(%d, %d, 1, 1) = %#x, %v", op, u, w, got)
			}
			if w, got := scalar.One(op, u, 1); got != (ok && one) || !got && w != 0 {
				t.Errorf("One(%d, %d, 1) = %#x, %v", op, u, w, got)
			}
		}
	}
}

// P1.2: words that are not right are refused, wherever they stand.
func TestWrongWords(t *testing.T) {
	wrong := map[api.Type][]uint64{
		api.Bool: {2, 3, num(-1)},
		api.U8:   {256, num(-1), 1 << 63},
		api.I32:  {1 << 31, 1 << 32, num(leastI32 - 1), 1 << 63},
		api.F64:  {0x7ff8000000000001, 0x7ff0000000000001, 0xfff8000000000000, num(-1)},
	}
	for u, l := range wrong {
		for _, w := range l {
			for _, op := range append(twoOps(), oneOps...) {
				checkTwo(t, op, u, w, 1, 0, false)
				checkTwo(t, op, u, 1, w, 0, false)
				checkTwo(t, op, u, w, w, 0, false)
				checkOne(t, op, u, w, 0, false)
			}
		}
	}
}

// P1.2: operations and types that are none.
func TestNoOperation(t *testing.T) {
	for _, u := range append(noTypes, allTypes...) {
		for _, op := range noOps {
			checkTwo(t, op, u, 1, 1, 0, false)
			checkOne(t, op, u, 1, 0, false)
		}
	}
	for _, u := range noTypes {
		for _, op := range append(twoOps(), oneOps...) {
			checkTwo(t, op, u, 0, 0, 0, false)
			checkOne(t, op, u, 0, 0, false)
		}
	}
}

// wantWhole reckons a whole operation with numbers that have no end.
func wantWhole(op api.Op, u api.Type, a, b uint64) uint64 {
	n, m, r := numberOf(a), numberOf(b), new(big.Int)
	s := uint(b % uint64(bitsOf(u)))
	switch op {
	case api.OpAdd:
		r.Add(n, m)
	case api.OpSub:
		r.Sub(n, m)
	case api.OpMul:
		r.Mul(n, m)
	case api.OpDiv:
		if m.Sign() != 0 {
			r.Quo(n, m)
		}
	case api.OpRem:
		if m.Sign() != 0 {
			r.Rem(n, m)
		}
	case api.OpAnd:
		r.And(n, m)
	case api.OpOr:
		r.Or(n, m)
	case api.OpXor:
		r.Xor(n, m)
	case api.OpShl:
		r.Lsh(n, s)
	case api.OpShr:
		r.Div(n, new(big.Int).Lsh(big.NewInt(1), s)) // Euclid's: rounded down, as 2^s is above 0
	default:
		return wantOrder(op, n.Cmp(m))
	}
	return wordOf(u, r)
}

func wantOrder(op api.Op, c int) uint64 {
	truth := map[api.Op]bool{api.OpEq: c == 0, api.OpNe: c != 0, api.OpLt: c < 0, api.OpLe: c <= 0, api.OpGt: c > 0, api.OpGe: c >= 0}
	if truth[op] {
		return 1
	}
	return 0
}

// P1.2: every operation of whole numbers, at the ends of the types and between; U8 at all its words.
func TestWholeOperations(t *testing.T) {
	for _, u := range wholeTypes {
		l := wordsOf(u)
		for _, a := range l {
			for _, b := range l {
				for _, op := range twoOps() {
					checkTwo(t, op, u, a, b, wantWhole(op, u, a, b), true)
				}
			}
			checkOne(t, api.OpNeg, u, a, wordOf(u, new(big.Int).Neg(numberOf(a))), true)
			checkOne(t, api.OpNot, u, a, wordOf(u, new(big.Int).Not(numberOf(a))), true)
		}
	}
}

// P1.2: the least number over -1, and by 0.
func TestDivisionAtTheEdges(t *testing.T) {
	for _, x := range []struct {
		t         api.Type
		a, b      uint64
		quot, rem uint64
	}{
		{api.I64, num(leastI64), num(-1), num(leastI64), 0}, {api.I64, num(leastI64), 0, 0, 0}, {api.I64, num(leastI64), 1, num(leastI64), 0}, {api.I64, mostI64, num(-1), num(-mostI64), 0}, {api.I64, 1, num(leastI64), 0, 1}, {api.I64, num(leastI64), num(leastI64), 1, 0},
		{api.I32, num(leastI32), num(-1), num(leastI32), 0}, {api.I32, num(leastI32), 0, 0, 0}, {api.I32, 7, num(-2), num(-3), 1}, {api.I32, num(-7), 2, num(-3), num(-1)}, {api.I32, num(-7), num(-2), 3, num(-1)},
		{api.U8, 5, 0, 0, 0}, {api.U8, 0, 0, 0, 0}, {api.U8, 255, 2, 127, 1}, {api.U8, 200, 255, 0, 200},
	} {
		checkTwo(t, api.OpDiv, x.t, x.a, x.b, x.quot, true)
		checkTwo(t, api.OpRem, x.t, x.a, x.b, x.rem, true)
	}
}

// P1.2: shifts by more places than there are.
func TestShiftsBeyond(t *testing.T) {
	for _, x := range []struct {
		t        api.Type
		a, b     uint64
		shl, shr uint64
	}{
		{api.U8, 1, 9, 2, 0}, {api.U8, 129, 8, 129, 129}, {api.U8, 129, 7, 128, 1}, {api.U8, 255, 255, 128, 1}, {api.U8, 3, 1, 6, 1},
		{api.I32, 1, 31, num(leastI32), 0}, {api.I32, 5, 32, 5, 5}, {api.I32, num(-5), 33, num(-10), num(-3)}, {api.I32, num(-5), num(-1), num(leastI32), num(-1)},
		{api.I64, 1, 63, num(leastI64), 0}, {api.I64, 5, 64, 5, 5}, {api.I64, num(-5), 65, num(-10), num(-3)}, {api.I64, num(-1), num(-1), num(leastI64), num(-1)}, {api.I64, num(leastI64), 63, 0, num(-1)},
	} {
		checkTwo(t, api.OpShl, x.t, x.a, x.b, x.shl, true)
		checkTwo(t, api.OpShr, x.t, x.a, x.b, x.shr, true)
	}
}

// P1.2: all operations of truths.
func TestTruths(t *testing.T) {
	for _, x := range [][7]uint64{ // a, b: and, or, xor, equal, unequal
		{0, 0, 0, 0, 0, 1, 0}, {0, 1, 0, 1, 1, 0, 1}, {1, 0, 0, 1, 1, 0, 1}, {1, 1, 1, 1, 0, 1, 0},
	} {
		for i, op := range []api.Op{api.OpAnd, api.OpOr, api.OpXor, api.OpEq, api.OpNe} {
			checkTwo(t, op, api.Bool, x[0], x[1], x[2+i], true)
		}
	}
	checkOne(t, api.OpNot, api.Bool, 0, 1, true)
	checkOne(t, api.OpNot, api.Bool, 1, 0, true)
}

// P1.2: sums and products of floats at NaN, the infinities, noughts of either sign, and where they are rounded.
func TestFloatOperations(t *testing.T) {
	inf, less := flo(math.Inf(1)), flo(math.Inf(-1))
	most, tiny := flo(math.MaxFloat64), uint64(1)
	var nought, below uint64 = 0, 1 << 63
	for _, x := range []struct {
		op      api.Op
		a, b, c uint64
	}{
		{api.OpAdd, flo(1.5), flo(2.25), flo(3.75)}, {api.OpAdd, flo(0.1), flo(0.2), flo(0.30000000000000004)}, {api.OpAdd, flo(1 << 53), flo(1), flo(1 << 53)}, {api.OpAdd, flo(1<<53 + 2), flo(1), flo(1<<53 + 4)}, {api.OpAdd, nought, below, nought}, {api.OpAdd, below, below, below}, {api.OpAdd, inf, less, oneNaN}, {api.OpAdd, most, most, inf}, {api.OpAdd, oneNaN, flo(1), oneNaN},
		{api.OpSub, flo(1.5), flo(2.25), flo(-0.75)}, {api.OpSub, inf, inf, oneNaN}, {api.OpSub, nought, nought, nought}, {api.OpSub, below, nought, below}, {api.OpSub, flo(0.3), flo(0.1), flo(0.19999999999999998)}, {api.OpSub, flo(1), oneNaN, oneNaN},
		{api.OpMul, flo(1.5), flo(-2), flo(-3)}, {api.OpMul, nought, inf, oneNaN}, {api.OpMul, nought, flo(-1), below}, {api.OpMul, most, flo(2), inf}, {api.OpMul, tiny, flo(0.5), nought}, {api.OpMul, tiny, flo(-0.5), below}, {api.OpMul, oneNaN, nought, oneNaN},
		{api.OpDiv, flo(1), flo(3), flo(0.3333333333333333)}, {api.OpDiv, nought, nought, oneNaN}, {api.OpDiv, flo(1), nought, inf}, {api.OpDiv, flo(1), below, less}, {api.OpDiv, flo(-1), nought, less}, {api.OpDiv, inf, inf, oneNaN}, {api.OpDiv, flo(1), less, below}, {api.OpDiv, flo(7), flo(2), flo(3.5)},
	} {
		checkTwo(t, x.op, api.F64, x.a, x.b, x.c, true)
	}
}

// P1.2: the same, held against Go's own operations at all edges.
func TestFloatsAreGos(t *testing.T) {
	for _, a := range floatWords() {
		for _, b := range floatWords() {
			x, y := math.Float64frombits(a), math.Float64frombits(b)
			for op, z := range map[api.Op]float64{api.OpAdd: x + y, api.OpSub: x - y, api.OpMul: x * y, api.OpDiv: x / y} {
				want := flo(z)
				if z != z {
					want = oneNaN
				}
				checkTwo(t, op, api.F64, a, b, want, true)
			}
			for op, z := range map[api.Op]bool{api.OpEq: x == y, api.OpNe: x != y, api.OpLt: x < y, api.OpLe: x <= y, api.OpGt: x > y, api.OpGe: x >= y} {
				want := uint64(0)
				if z {
					want = 1
				}
				checkTwo(t, op, api.F64, a, b, want, true)
			}
		}
	}
}

// P1.2: NaN is unlike all, noughts of either sign are alike, infinities stand outside.
func TestFloatOrder(t *testing.T) {
	inf, less := flo(math.Inf(1)), flo(math.Inf(-1))
	ops := []api.Op{api.OpEq, api.OpNe, api.OpLt, api.OpLe, api.OpGt, api.OpGe}
	for _, x := range []struct {
		a, b uint64
		want [6]uint64
	}{
		{oneNaN, oneNaN, [6]uint64{0, 1, 0, 0, 0, 0}}, {oneNaN, flo(1), [6]uint64{0, 1, 0, 0, 0, 0}}, {inf, oneNaN, [6]uint64{0, 1, 0, 0, 0, 0}},
		{0, 1 << 63, [6]uint64{1, 0, 0, 1, 0, 1}}, {1 << 63, 0, [6]uint64{1, 0, 0, 1, 0, 1}},
		{less, flo(-math.MaxFloat64), [6]uint64{0, 1, 1, 1, 0, 0}}, {inf, flo(math.MaxFloat64), [6]uint64{0, 1, 0, 0, 1, 1}}, {inf, inf, [6]uint64{1, 0, 0, 1, 0, 1}},
		{flo(-2), flo(-1), [6]uint64{0, 1, 1, 1, 0, 0}}, {flo(-1), flo(1), [6]uint64{0, 1, 1, 1, 0, 0}}, {flo(2.5), flo(2.5), [6]uint64{1, 0, 0, 1, 0, 1}},
	} {
		for i, op := range ops {
			checkTwo(t, op, api.F64, x.a, x.b, x.want[i], true)
		}
	}
}

// P1.2: a float's sign is turned, and nothing else; NaN has none.
func TestFloatSign(t *testing.T) {
	for _, a := range floatWords() {
		want := a ^ 1<<63
		if a == oneNaN {
			want = oneNaN
		}
		checkOne(t, api.OpNeg, api.F64, a, want, true)
		checkOne(t, api.OpNot, api.F64, a, 0, false)
	}
}

// P1.4: only divisions and rests of whole numbers by 0 stop.
func TestStops(t *testing.T) {
	for i := range 256 {
		for j := range 256 {
			op, u := api.Op(i), api.Type(j)
			want := has([]api.Op{api.OpDiv, api.OpRem}, op) && has(wholeTypes, u)
			if got := scalar.Stops(op, u, 0); got != want {
				t.Errorf("Stops(%d, %d, 0) = %v", op, u, got)
			}
			for _, b := range []uint64{1, 2, 255, 256, 1 << 31, 1 << 32, 1 << 63, num(-1)} {
				if scalar.Stops(op, u, b) {
					t.Errorf("Stops(%d, %d, %#x)", op, u, b)
				}
			}
		}
	}
}

func checkTwo(t *testing.T, op api.Op, u api.Type, a, b, want uint64, ok bool) {
	t.Helper()
	if got, gotOK := scalar.Two(op, u, a, b); got != want || gotOK != ok {
		t.Errorf("Two(%d, %d, %#x, %#x) = %#x, %v, not %#x, %v", op, u, a, b, got, gotOK, want, ok)
	}
}

func checkOne(t *testing.T, op api.Op, u api.Type, a, want uint64, ok bool) {
	t.Helper()
	if got, gotOK := scalar.One(op, u, a); got != want || gotOK != ok {
		t.Errorf("One(%d, %d, %#x) = %#x, %v, not %#x, %v", op, u, a, got, gotOK, want, ok)
	}
}
