package scalar_test

import (
	"math"
	"math/big"
	"testing"

	"smithy/api"
	"smithy/scalar"
)

// P1.3: Turns at all pairs of types; where it says no, nothing is turned and nothing fits.
func TestTurnsEverywhere(t *testing.T) {
	for i := range 256 {
		for j := range 256 {
			to, from := api.Type(i), api.Type(j)
			want := has(numbers, to) && has(numbers, from)
			if got := scalar.Turns(to, from); got != want {
				t.Errorf("Turns(%d, %d) = %v", to, from, got)
			}
			if !want {
				checkTurn(t, to, from, 0, 0, false, false)
				checkTurn(t, to, from, 1, 0, false, false)
			}
		}
	}
}

// P1.3: words that are not right.
func TestTurnWrongWords(t *testing.T) {
	for _, to := range numbers {
		for _, w := range []uint64{256, 511, num(-1), 1 << 63} {
			checkTurn(t, to, api.U8, w, 0, false, false)
		}
		for _, w := range []uint64{1 << 31, 1 << 32, num(leastI32 - 1), 1 << 63} {
			checkTurn(t, to, api.I32, w, 0, false, false)
		}
		for _, w := range []uint64{0x7ff8000000000001, 0x7ff0000000000001, 0xfff8000000000000, num(-1)} {
			checkTurn(t, to, api.F64, w, 0, false, false)
		}
	}
}

// P1.3: whole numbers wrap, and always fit.
func TestTurnWholeToWhole(t *testing.T) {
	for _, from := range wholeTypes {
		for _, to := range wholeTypes {
			for _, w := range wordsOf(from) {
				checkTurn(t, to, from, w, wordOf(to, numberOf(w)), true, true)
			}
		}
	}
}

// P1.3: whole numbers become the nearest float, ties to even.
func TestTurnWholeToFloat(t *testing.T) {
	for _, from := range wholeTypes {
		for _, w := range wordsOf(from) {
			near, _ := new(big.Float).SetPrec(53).SetMode(big.ToNearestEven).SetInt(numberOf(w)).Float64()
			checkTurn(t, api.F64, from, w, flo(near), true, true)
		}
	}
	for _, x := range []struct {
		n int64
		f float64
	}{
		{0, 0}, {-1, -1}, {1<<53 + 1, 1 << 53}, {1<<53 + 2, 1<<53 + 2}, {1<<53 + 3, 1<<53 + 4}, {-1<<53 - 1, -1 << 53}, {-1<<53 - 3, -1<<53 - 4}, {1<<54 + 2, 1 << 54}, {1<<54 + 3, 1<<54 + 4}, {1<<54 + 6, 1<<54 + 8}, {mostI64, 0x1p63}, {mostI64 - 511, 0x1p63}, {mostI64 - 512, 0x1p63 - 1024}, {leastI64, -0x1p63},
	} {
		checkTurn(t, api.F64, api.I64, num(x.n), flo(x.f), true, true)
	}
}

// P1.3: floats are turned into floats as they are.
func TestTurnFloatToFloat(t *testing.T) {
	for _, w := range floatWords() {
		checkTurn(t, api.F64, api.F64, w, w, true, true)
	}
}

// P1.3: floats that just fit a whole type, and that just don't.
func TestTurnFloatToWholeAtTheEnds(t *testing.T) {
	inf := math.Inf(1)
	for _, x := range []struct {
		to   api.Type
		f    float64
		want int64
		fits bool
	}{
		{api.U8, 0, 0, true}, {api.U8, math.Copysign(0, -1), 0, true}, {api.U8, -0.9, 0, true}, {api.U8, math.Nextafter(-1, 0), 0, true}, {api.U8, -1, 0, false}, {api.U8, 255.9, 255, true}, {api.U8, math.Nextafter(256, 0), 255, true}, {api.U8, 256, 0, false}, {api.U8, 300, 0, false}, {api.U8, inf, 0, false}, {api.U8, -inf, 0, false},
		{api.I32, -2.9, -2, true}, {api.I32, 2.9, 2, true}, {api.I32, -0.5, 0, true}, {api.I32, mostI32, mostI32, true}, {api.I32, mostI32 + 0.9, mostI32, true}, {api.I32, math.Nextafter(1<<31, 0), mostI32, true}, {api.I32, 1 << 31, 0, false}, {api.I32, leastI32, leastI32, true}, {api.I32, leastI32 - 0.9, leastI32, true}, {api.I32, math.Nextafter(leastI32-1, 0), leastI32, true}, {api.I32, leastI32 - 1, 0, false}, {api.I32, 1 << 32, 0, false}, {api.I32, inf, 0, false}, {api.I32, -inf, 0, false},
		{api.I64, 1 << 53, 1 << 53, true}, {api.I64, -2.9, -2, true}, {api.I64, math.Nextafter(0x1p63, 0), mostI64 - 1023, true}, {api.I64, 0x1p63, 0, false}, {api.I64, -0x1p63, leastI64, true}, {api.I64, math.Nextafter(-0x1p63, -inf), 0, false}, {api.I64, 1e300, 0, false}, {api.I64, inf, 0, false}, {api.I64, -inf, 0, false},
	} {
		checkTurn(t, x.to, api.F64, flo(x.f), num(x.want), true, x.fits)
	}
	for _, to := range wholeTypes {
		checkTurn(t, to, api.F64, oneNaN, 0, true, false)
	}
}

// P1.3: the same, held against whole parts with no end.
func TestTurnFloatToWhole(t *testing.T) {
	for _, w := range floatWords() {
		x := math.Float64frombits(w)
		if math.IsNaN(x) || math.IsInf(x, 0) {
			continue
		}
		part, _ := big.NewFloat(x).Int(nil)
		for _, to := range wholeTypes {
			if part.Cmp(leastOf(to)) < 0 || part.Cmp(mostOf(to)) > 0 {
				checkTurn(t, to, api.F64, w, 0, true, false)
			} else {
				checkTurn(t, to, api.F64, w, num(part.Int64()), true, true)
			}
		}
	}
}

func checkTurn(t *testing.T, to, from api.Type, w, want uint64, ok, fits bool) {
	t.Helper()
	if got, gotOK := scalar.Turn(to, from, w); got != want || gotOK != ok {
		t.Errorf("Turn(%d, %d, %#x) = %#x, %v, not %#x, %v", to, from, w, got, gotOK, want, ok)
	}
	if got := scalar.Fits(to, from, w); got != fits {
		t.Errorf("Fits(%d, %d, %#x) = %v", to, from, w, got)
	}
}
