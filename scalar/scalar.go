// Package scalar is layer 1: words of types, and what operations make of them (shared/doc/01-scalar.md).
package scalar

import (
	"math"

	"smithy/api"
)

// oneNaN is the only NaN among the words of F64: floats could not be told apart by their words otherwise.
const oneNaN = 0x7ff8000000000000

// Right tells whether w is a word of the type t.
func Right(t api.Type, w uint64) bool {
	return typed(t) && Cut(t, w) == w
}

// Cut brings w into the words of the type t; of no type it is 0.
func Cut(t api.Type, w uint64) uint64 {
	switch t {
	case api.Bool:
		return w & 1
	case api.U8:
		return uint64(uint8(w))
	case api.I32:
		return uint64(int32(w))
	case api.F64:
		if math.IsNaN(math.Float64frombits(w)) {
			return oneNaN
		}
		fallthrough
	case api.I64:
		return w
	}
	return 0
}

func typed(t api.Type) bool {
	return t == api.Bool || number(t)
}

func number(t api.Type) bool {
	return t == api.F64 || whole(t)
}

func whole(t api.Type) bool {
	switch t {
	case api.U8, api.I32, api.I64:
		return true
	}
	return false
}

// floatWord goes by Cut, since Go leaves open which NaN an operation makes.
func floatWord(x float64) uint64 {
	return Cut(api.F64, math.Float64bits(x))
}

func truthWord(x bool) uint64 {
	if x {
		return 1
	}
	return 0
}
