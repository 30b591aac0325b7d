package scalar_test

import (
	"math/big"
	"testing"

	"smithy/api"
	"smithy/scalar"
)

// P1.5: whole numbers are added, subtracted and multiplied as numbers are, modulo 2^8, 2^32, 2^64.
func TestModulo(t *testing.T) {
	for _, u := range wholeTypes {
		round := new(big.Int).Lsh(big.NewInt(1), bitsOf(u))
		for _, a := range wordsOf(u) {
			for _, b := range wordsOf(u) {
				n, m := numberOf(a), numberOf(b)
				for op, want := range map[api.Op]*big.Int{
					api.OpAdd: new(big.Int).Add(n, m),
					api.OpSub: new(big.Int).Sub(n, m),
					api.OpMul: new(big.Int).Mul(n, m),
				} {
					c, _ := scalar.Two(op, u, a, b)
					if d := new(big.Int).Sub(want, numberOf(c)); d.Mod(d, round).Sign() != 0 {
						t.Errorf("Two(%d, %d, %#x, %#x) = %#x is not so modulo 2^%d", op, u, a, b, c, bitsOf(u))
					}
				}
			}
		}
	}
}

// P1.5: n is m times the quotient and the rest, which is nearer to 0 than m and not of the other sign than n.
func TestQuotientAndRest(t *testing.T) {
	for _, u := range wholeTypes {
		for _, a := range wordsOf(u) {
			for _, b := range wordsOf(u) {
				if b == 0 {
					continue
				}
				q, _ := scalar.Two(api.OpDiv, u, a, b)
				r, _ := scalar.Two(api.OpRem, u, a, b)
				back, _ := scalar.Two(api.OpMul, u, b, q)
				back, _ = scalar.Two(api.OpAdd, u, back, r)
				if back != a {
					t.Errorf("type %d: %#x over %#x is %#x, rest %#x", u, a, b, q, r)
				}
				n, m, rest := numberOf(a), numberOf(b), numberOf(r)
				if rest.CmpAbs(m) >= 0 || rest.Sign()*n.Sign() < 0 {
					t.Errorf("type %d: rest of %v over %v is %v", u, n, m, rest)
				}
			}
		}
	}
}

// P1.5: what is told is right: a word of the type that Of says, of the type turned to.
func TestToldIsRight(t *testing.T) {
	for _, u := range allTypes {
		for _, a := range wordsOf(u) {
			if !scalar.Right(u, a) {
				t.Errorf("type %d: %#x is not right", u, a)
			}
			for _, op := range oneOps {
				told, _ := scalar.Of(op, u)
				if w, ok := scalar.One(op, u, a); ok && !scalar.Right(told, w) {
					t.Errorf("One(%d, %d, %#x) = %#x", op, u, a, w)
				}
			}
			for _, to := range allTypes {
				if w, ok := scalar.Turn(to, u, a); ok && !scalar.Right(to, w) {
					t.Errorf("Turn(%d, %d, %#x) = %#x", to, u, a, w)
				}
			}
			toldOfTwo(t, u, a)
		}
	}
	for _, w := range odd(500) {
		for _, u := range allTypes {
			if c := scalar.Cut(u, w); !scalar.Right(u, c) {
				t.Errorf("Cut(%d, %#x) = %#x", u, w, c)
			}
		}
	}
}

func toldOfTwo(t *testing.T, u api.Type, a uint64) {
	for _, b := range wordsOf(u) {
		for _, op := range twoOps() {
			told, _ := scalar.Of(op, u)
			if w, ok := scalar.Two(op, u, a, b); ok && !scalar.Right(told, w) {
				t.Errorf("Two(%d, %d, %#x, %#x) = %#x", op, u, a, b, w)
			}
		}
	}
}

// P1.5: to turn up and back is what was there.
func TestUpAndBack(t *testing.T) {
	for _, x := range []struct{ low, high api.Type }{
		{api.U8, api.I32}, {api.U8, api.I64}, {api.U8, api.F64}, {api.I32, api.I64}, {api.I32, api.F64},
	} {
		for _, w := range wordsOf(x.low) {
			up, upOK := scalar.Turn(x.high, x.low, w)
			back, backOK := scalar.Turn(x.low, x.high, up)
			if !upOK || !backOK || back != w || !scalar.Fits(x.low, x.high, up) {
				t.Errorf("%#x of type %d by type %d: %#x", w, x.low, x.high, back)
			}
		}
	}
}
