package scalar_test

import (
	"testing"

	"smithy/api"
	"smithy/scalar"
)

// The chapter's examples, and the first one of the document.

func TestExampleWords(t *testing.T) {
	for _, x := range []struct {
		t     api.Type
		w     uint64
		right bool
	}{
		{api.U8, 256, false}, {api.Bool, 2, false}, {api.I32, 1 << 31, false}, {api.NoType, 0, false}, {api.F64, 0x7ff8000000000001, false}, {api.I32, num(leastI32), true},
	} {
		if got := scalar.Right(x.t, x.w); got != x.right {
			t.Errorf("Right(%d, %#x) = %v", x.t, x.w, got)
		}
	}
	for _, x := range []struct {
		t       api.Type
		w, want uint64
	}{
		{api.U8, 511, 255}, {api.I32, 1 << 31, num(leastI32)}, {api.Bool, 6, 0}, {9, 5, 0},
	} {
		if got := scalar.Cut(x.t, x.w); got != x.want {
			t.Errorf("Cut(%d, %#x) = %#x", x.t, x.w, got)
		}
	}
}

func TestExampleTwo(t *testing.T) {
	checkTwo(t, api.OpAdd, api.U8, 200, 100, 44, true)
	checkTwo(t, api.OpMul, api.I32, 65536, 65536, 0, true)
	checkTwo(t, api.OpDiv, api.I64, num(leastI64), num(-1), num(leastI64), true)
	checkTwo(t, api.OpDiv, api.I64, num(leastI64), 0, 0, true)
	checkTwo(t, api.OpRem, api.I64, num(-7), 2, num(-1), true)
	checkTwo(t, api.OpDiv, api.I32, num(-7), 2, num(-3), true)
	checkTwo(t, api.OpDiv, api.U8, 5, 0, 0, true)
	checkTwo(t, api.OpShl, api.U8, 1, 9, 2, true)
	checkTwo(t, api.OpShr, api.I32, num(-5), 1, num(-3), true)
	checkTwo(t, api.OpLt, api.U8, 200, 100, 0, true)
	checkTwo(t, api.OpAdd, api.Bool, 1, 1, 0, false)
	checkTwo(t, api.OpNeg, api.I64, 1, 1, 0, false)
	checkTwo(t, api.OpAdd, api.U8, 256, 1, 0, false)
	checkTwo(t, api.OpDiv, api.F64, 0, 0, oneNaN, true)
	checkTwo(t, api.OpNe, api.F64, oneNaN, oneNaN, 1, true)
}

func TestExampleOne(t *testing.T) {
	checkOne(t, api.OpNeg, api.U8, 1, 255, true)
	checkOne(t, api.OpNot, api.Bool, 0, 1, true)
	checkOne(t, api.OpNot, api.I32, 0, num(-1), true)
	checkOne(t, api.OpNeg, api.F64, 0, 1<<63, true)
	checkOne(t, api.OpNot, api.F64, 0, 0, false)
}

func TestExampleTurn(t *testing.T) {
	checkTurn(t, api.U8, api.I64, num(-1), 255, true, true)
	checkTurn(t, api.F64, api.I64, 1<<53+1, flo(1<<53), true, true)
	checkTurn(t, api.I32, api.F64, flo(-2.9), num(-2), true, true)
	checkTurn(t, api.U8, api.F64, flo(256), 0, true, false)
	checkTurn(t, api.U8, api.F64, flo(255.9), 255, true, true)
	checkTurn(t, api.U8, api.F64, flo(-0.9), 0, true, true)
	checkTurn(t, api.I64, api.Bool, 1, 0, false, false)
	if !scalar.Stops(api.OpDiv, api.I32, 0) || scalar.Stops(api.OpDiv, api.F64, 0) {
		t.Error("Stops")
	}
}
