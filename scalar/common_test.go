package scalar_test

import (
	"math"
	"math/big"

	"smithy/api"
)

const (
	oneNaN   = 0x7ff8000000000000
	leastI32 = -1 << 31
	mostI32  = 1<<31 - 1
	leastI64 = -1 << 63
	mostI64  = 1<<63 - 1
)

var (
	allTypes   = []api.Type{api.Bool, api.U8, api.I32, api.I64, api.F64}
	wholeTypes = []api.Type{api.U8, api.I32, api.I64}
	numbers    = []api.Type{api.U8, api.I32, api.I64, api.F64}
	noTypes    = []api.Type{api.NoType, 6, 9, 128, 255}
	oneOps     = []api.Op{api.OpNeg, api.OpNot}
	noOps      = []api.Op{api.NoOp, 19, 20, 128, 255}
)

func num(n int64) uint64 { return uint64(n) }

func flo(x float64) uint64 { return math.Float64bits(x) }

// twoOps are api's OpAdd to OpGe.
func twoOps() []api.Op {
	var l []api.Op
	for op := api.OpAdd; op <= api.OpGe; op++ {
		l = append(l, op)
	}
	return l
}

func has[T comparable](l []T, x T) bool {
	for _, y := range l {
		if y == x {
			return true
		}
	}
	return false
}

// odd is a row of words that have no pattern, the same ones each time.
func odd(n int) []uint64 {
	l := make([]uint64, n)
	w := uint64(0x9e3779b97f4a7c15)
	for i := range l {
		w ^= w << 13
		w ^= w >> 7
		w ^= w << 17
		l[i] = w
	}
	return l
}

// bitsOf and signed say what the document says of the whole types; the tests reckon by them, not by the package.
func bitsOf(t api.Type) uint {
	switch t {
	case api.U8:
		return 8
	case api.I32:
		return 32
	}
	return 64
}

func signed(t api.Type) bool { return t != api.U8 }

func leastOf(t api.Type) *big.Int {
	if !signed(t) {
		return big.NewInt(0)
	}
	return new(big.Int).Neg(new(big.Int).Lsh(big.NewInt(1), bitsOf(t)-1))
}

func mostOf(t api.Type) *big.Int {
	n := bitsOf(t)
	if signed(t) {
		n--
	}
	return new(big.Int).Sub(new(big.Int).Lsh(big.NewInt(1), n), big.NewInt(1))
}

// numberOf is the number that a word of a whole type says.
func numberOf(w uint64) *big.Int { return big.NewInt(int64(w)) }

// wordOf is n modulo 2^bits, as a word of the whole type t.
func wordOf(t api.Type, n *big.Int) uint64 {
	round := new(big.Int).Lsh(big.NewInt(1), bitsOf(t))
	m := new(big.Int).Mod(n, round)
	if m.Cmp(mostOf(t)) > 0 {
		m.Sub(m, round)
	}
	return uint64(m.Int64())
}

// wordsOf are words of the type t: all of the small types, the edges and some odd ones of the others.
func wordsOf(t api.Type) []uint64 {
	switch t {
	case api.Bool:
		return []uint64{0, 1}
	case api.U8:
		var l []uint64
		for w := range uint64(256) {
			l = append(l, w)
		}
		return l
	case api.F64:
		return floatWords()
	}
	l := []uint64{}
	for _, n := range []int64{0, 1, 2, 3, 5, 7, 8, 9, 31, 32, 33, 63, 64, 65, 127, 128, 255, 256, 65535, 65536, mostI32 - 1, mostI32} {
		l = append(l, num(n), num(-n), num(-n-1))
	}
	if t == api.I64 {
		for _, n := range []int64{1 << 31, 1 << 32, 1<<53 - 1, 1 << 53, 1<<53 + 1, 1<<53 + 2, 1<<53 + 3, 1<<62 + 1, mostI64 - 512, mostI64 - 511, mostI64 - 1, mostI64} {
			l = append(l, num(n), num(-n), num(-n-1))
		}
	}
	for _, w := range odd(20) {
		l = append(l, wordOf(t, numberOf(w)))
	}
	return l
}

func floatWords() []uint64 {
	l := []uint64{oneNaN}
	for _, x := range []float64{0, 0.1, 0.2, 0.5, 0.9, 1, 1.5, 2, 2.5, 3, 127.5, 128, 255, 255.9, 256, mostI32, mostI32 + 0.9, 1 << 31, 1 << 32, 1 << 53, 0x1p62, 0x1p63 - 1024, 0x1p63, 0x1p64, 1e300, math.MaxFloat64, math.SmallestNonzeroFloat64, 0x1p-1022, math.Inf(1)} {
		l = append(l, flo(x), flo(-x)|1<<63)
	}
	return l
}
