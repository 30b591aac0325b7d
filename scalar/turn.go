package scalar

import (
	"math"

	"smithy/api"
)

// Turns tells whether words of the type from can be turned into words of the type to.
func Turns(to, from api.Type) bool {
	return number(to) && number(from)
}

// Fits tells whether Turn's word stands for w: whole numbers always fit, since they wrap; a float may lie beyond the type.
func Fits(to, from api.Type, w uint64) bool {
	if !Turns(to, from) || !Right(from, w) {
		return false
	}
	return from != api.F64 || to == api.F64 || within(to, math.Float64frombits(w))
}

// Turn is w, a word of the type from, as a word of the type to; 0, if it does not fit; false, if there is nothing to turn.
func Turn(to, from api.Type, w uint64) (uint64, bool) {
	if !Turns(to, from) || !Right(from, w) {
		return 0, false
	}
	switch {
	case from == api.F64 && to == api.F64:
		return w, true
	case from == api.F64:
		return wholePart(to, math.Float64frombits(w)), true
	case to == api.F64:
		return floatWord(float64(int64(w))), true
	}
	return Cut(to, w), true
}

// wholePart converts only what fits: what Go makes of other floats differs from machine to machine.
func wholePart(to api.Type, x float64) uint64 {
	if !within(to, x) {
		return 0
	}
	return uint64(int64(x))
}

// within tells whether the whole part of x is a number of the whole type to. The upper bounds are the first numbers beyond, since 2^63 - 1 is no float; of NaN every comparison is false.
func within(to api.Type, x float64) bool {
	n := math.Trunc(x)
	switch to {
	case api.U8:
		return 0 <= n && n < 0x1p8
	case api.I32:
		return -0x1p31 <= n && n < 0x1p31
	case api.I64:
		return -0x1p63 <= n && n < 0x1p63
	}
	return false
}
