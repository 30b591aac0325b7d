package scalar_test

import (
	"testing"

	"smithy/api"
	"smithy/scalar"
)

// P1.1: Right and Cut at the ends of each type, and just beyond them.
func TestWordsAtTheEnds(t *testing.T) {
	for _, x := range []struct {
		t     api.Type
		w     uint64
		right bool
		cut   uint64
	}{
		{api.Bool, 0, true, 0}, {api.Bool, 1, true, 1}, {api.Bool, 2, false, 0}, {api.Bool, 3, false, 1}, {api.Bool, 6, false, 0}, {api.Bool, num(-1), false, 1},
		{api.U8, 0, true, 0}, {api.U8, 255, true, 255}, {api.U8, 256, false, 0}, {api.U8, 511, false, 255}, {api.U8, num(-1), false, 255}, {api.U8, 1 << 63, false, 0},
		{api.I32, 0, true, 0}, {api.I32, mostI32, true, mostI32}, {api.I32, 1 << 31, false, num(leastI32)}, {api.I32, num(leastI32), true, num(leastI32)}, {api.I32, num(leastI32 - 1), false, mostI32}, {api.I32, 1<<32 - 1, false, num(-1)}, {api.I32, 1 << 32, false, 0}, {api.I32, num(-1), true, num(-1)}, {api.I32, 1<<63 | 5, false, 5},
		{api.I64, 0, true, 0}, {api.I64, mostI64, true, mostI64}, {api.I64, 1 << 63, true, 1 << 63}, {api.I64, num(-1), true, num(-1)},
	} {
		checkWord(t, x.t, x.w, x.right, x.cut)
	}
}

// P1.1: the words of F64 are the floats' bits, with one NaN among them.
func TestWordsOfFloats(t *testing.T) {
	for _, x := range []struct {
		w     uint64
		right bool
		cut   uint64
	}{
		{0, true, 0}, {1 << 63, true, 1 << 63}, {flo(-0.5), true, flo(-0.5)}, {1, true, 1}, {0x7fefffffffffffff, true, 0x7fefffffffffffff},
		{0x7ff0000000000000, true, 0x7ff0000000000000}, {0xfff0000000000000, true, 0xfff0000000000000},
		{oneNaN, true, oneNaN}, {0x7ff8000000000001, false, oneNaN}, {0x7ff0000000000001, false, oneNaN}, {0x7fffffffffffffff, false, oneNaN}, {0xfff8000000000000, false, oneNaN}, {0xfff0000000000001, false, oneNaN}, {0xffffffffffffffff, false, oneNaN},
	} {
		checkWord(t, api.F64, x.w, x.right, x.cut)
	}
}

// P1.1: of no type no word is right, and every word is cut to 0.
func TestWordsOfNoType(t *testing.T) {
	for _, no := range noTypes {
		for _, w := range []uint64{0, 1, 5, 255, num(-1), oneNaN} {
			checkWord(t, no, w, false, 0)
		}
	}
}

// P1.1: Cut is the number modulo 2^bits, whatever the word.
func TestCutIsModulo(t *testing.T) {
	for _, w := range append(odd(500), wordsOf(api.I64)...) {
		for _, u := range wholeTypes {
			want := wordOf(u, numberOf(w))
			checkWord(t, u, w, w == want, want)
		}
		checkWord(t, api.Bool, w, w < 2, w%2)
	}
}

func checkWord(t *testing.T, u api.Type, w uint64, right bool, cut uint64) {
	t.Helper()
	if got := scalar.Right(u, w); got != right {
		t.Errorf("Right(%d, %#x) = %v", u, w, got)
	}
	if got := scalar.Cut(u, w); got != cut {
		t.Errorf("Cut(%d, %#x) = %#x, not %#x", u, w, got, cut)
	}
}
