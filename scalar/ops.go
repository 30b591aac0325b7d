package scalar

import (
	"math"

	"smithy/api"
)

// Of is the type of what op tells on operands of the type t; false, if op is none for t.
func Of(op api.Op, t api.Type) (api.Type, bool) {
	switch op {
	case api.OpEq, api.OpNe:
		if t == api.Bool {
			return api.Bool, true
		}
		fallthrough
	case api.OpLt, api.OpLe, api.OpGt, api.OpGe:
		if number(t) {
			return api.Bool, true
		}
	case api.OpAdd, api.OpSub, api.OpMul, api.OpDiv, api.OpNeg:
		if number(t) {
			return t, true
		}
	case api.OpAnd, api.OpOr, api.OpXor, api.OpNot:
		if t == api.Bool {
			return t, true
		}
		fallthrough
	case api.OpRem, api.OpShl, api.OpShr:
		if whole(t) {
			return t, true
		}
	}
	return api.NoType, false
}

// Two is what op tells on the words a and b of the type t; false, if there is nothing to tell.
func Two(op api.Op, t api.Type, a, b uint64) (uint64, bool) {
	_, ok := Of(op, t)
	if !ok || ofOne(op) || !Right(t, a) || !Right(t, b) {
		return 0, false
	}
	if t == api.F64 {
		return twoFloats(op, math.Float64frombits(a), math.Float64frombits(b)), true
	}
	return twoBits(op, t, a, b), true
}

// One is what op tells on the word a of the type t; false, if there is nothing to tell.
func One(op api.Op, t api.Type, a uint64) (uint64, bool) {
	_, ok := Of(op, t)
	if !ok || !ofOne(op) || !Right(t, a) {
		return 0, false
	}
	if op == api.OpNot {
		return Cut(t, ^a), true
	}
	if t == api.F64 {
		return floatWord(-math.Float64frombits(a)), true
	}
	return Cut(t, -a), true
}

// Stops tells whether op, with b as its second operand, is what a source may not do: to divide whole numbers by 0.
func Stops(op api.Op, t api.Type, b uint64) bool {
	return (op == api.OpDiv || op == api.OpRem) && whole(t) && b == 0
}

func ofOne(op api.Op) bool {
	return op == api.OpNeg || op == api.OpNot
}

// twoFloats makes a word of each result at once, so that no two operations can be joined into one rounding.
func twoFloats(op api.Op, x, y float64) uint64 {
	switch op {
	case api.OpAdd:
		return floatWord(x + y)
	case api.OpSub:
		return floatWord(x - y)
	case api.OpMul:
		return floatWord(x * y)
	case api.OpDiv:
		return floatWord(x / y)
	}
	return truthWord(compared(op, x, y))
}

func twoBits(op api.Op, t api.Type, a, b uint64) uint64 {
	switch op {
	case api.OpAdd:
		return Cut(t, a+b)
	case api.OpSub:
		return Cut(t, a-b)
	case api.OpMul:
		return Cut(t, a*b)
	case api.OpDiv, api.OpRem:
		return divided(op, t, int64(a), int64(b))
	case api.OpAnd:
		return a & b
	case api.OpOr:
		return a | b
	case api.OpXor:
		return a ^ b
	case api.OpShl:
		return Cut(t, a<<places(t, b))
	case api.OpShr:
		return uint64(int64(a) >> places(t, b))
	}
	return truthWord(compared(op, int64(a), int64(b)))
}

// divided asks for 0 first, since Go would panic there; the least number over -1 wraps by itself.
func divided(op api.Op, t api.Type, n, m int64) uint64 {
	if m == 0 {
		return 0
	}
	if op == api.OpRem {
		return Cut(t, uint64(n%m))
	}
	return Cut(t, uint64(n/m))
}

// places is by how many bits b shifts a word of the whole type t: always fewer than the type has.
func places(t api.Type, b uint64) uint64 {
	switch t {
	case api.U8:
		return b & 7
	case api.I32:
		return b & 31
	}
	return b & 63
}

// compared serves floats too: Go's comparisons already are what is asked of NaN and of noughts of either sign.
func compared[N int64 | float64](op api.Op, n, m N) bool {
	switch op {
	case api.OpEq:
		return n == m
	case api.OpNe:
		return n != m
	case api.OpLt:
		return n < m
	case api.OpLe:
		return n <= m
	case api.OpGt:
		return n > m
	case api.OpGe:
		return n >= m
	}
	return false
}
