package spell_test

import (
	"math"
	"math/big"
	"regexp"
	"strconv"
	"strings"
	"testing"

	"smithy/api"
	"smithy/spell"
	"smithy/syntax"
)

func lit(u api.Type, bits uint64) api.Tree {
	return nested(api.Node{Kind: api.NodeLit, Type: u, Bits: bits})
}

func TestWholeLiterals(t *testing.T) {
	for _, x := range []struct {
		u    api.Type
		bits uint64
		want string
	}{
		{api.Bool, 0, "false"}, {api.Bool, 1, "true"},
		{api.U8, 0, "0u8"}, {api.U8, 1, "1u8"}, {api.U8, 9, "9u8"}, {api.U8, 10, "10u8"}, {api.U8, 128, "128u8"}, {api.U8, 254, "254u8"}, {api.U8, 255, "255u8"},
		{api.I32, 0, "0i32"}, {api.I32, 1, "1i32"}, {api.I32, 255, "255i32"}, {api.I32, 1 << 30, "1073741824i32"}, {api.I32, 1<<31 - 1, "2147483647i32"},
		{api.I64, 0, "0"}, {api.I64, 1, "1"}, {api.I64, 10, "10"}, {api.I64, 256, "256"}, {api.I64, 1 << 31, "2147483648"}, {api.I64, 1 << 32, "4294967296"},
		{api.I64, 1<<53 + 1, "9007199254740993"}, {api.I64, 1<<63 - 1, "9223372036854775807"},
	} {
		wantPrint(t, lit(x.u, x.bits), asPrinted(x.want))
	}
	for n := range 256 {
		wantPrint(t, lit(api.U8, uint64(n)), asPrinted(strconv.Itoa(n)+"u8"))
	}
	wantExpr(t, "007", "7")
	wantExpr(t, "5i64", "5")
	wantExpr(t, "00u8", "0u8")
}

func TestWordsThatAreNoLiterals(t *testing.T) {
	for _, x := range []struct {
		u    api.Type
		bits uint64
	}{
		{api.Bool, 2}, {api.U8, 256}, {api.I32, 1 << 31}, {api.I32, math.MaxUint64}, {api.I64, 1 << 63}, {api.I64, math.MaxUint64}, {api.NoType, 0}, {6, 0}, {255, 1},
		{api.F64, math.Float64bits(math.Inf(1))}, {api.F64, math.Float64bits(math.Inf(-1))}, {api.F64, 0x7ff8000000000000}, {api.F64, 1 << 63}, {api.F64, math.Float64bits(-1.5)},
	} {
		wantRefused(t, lit(x.u, x.bits), "a literal")
	}
}

// floats are words of F64 and their texts, at ends and edges.
var floats = []struct {
	bits uint64
	text string
}{
	{0, "0.0e+00"},
	{1, "5.0e-324"},
	{2, "1.0e-323"},
	{3, "1.5e-323"},
	{0x000fffffffffffff, "2.225073858507201e-308"},
	{0x0010000000000000, "2.2250738585072014e-308"},
	{0x0010000000000001, "2.225073858507202e-308"},
	{0x7fefffffffffffff, "1.7976931348623157e+308"},
	{0x7feffffffffffffe, "1.7976931348623155e+308"},
	{math.Float64bits(1), "1.0e+00"},
	{math.Float64bits(2), "2.0e+00"},
	{math.Float64bits(10), "1.0e+01"},
	{math.Float64bits(12), "1.2e+01"},
	{math.Float64bits(0.1), "1.0e-01"},
	{math.Float64bits(0.2), "2.0e-01"},
	{math.Float64bits(0.30000000000000004), "3.0000000000000004e-01"},
	{math.Float64bits(1.0 / 3), "3.333333333333333e-01"},
	{math.Float64bits(0.99), "9.9e-01"},
	{math.Float64bits(123.456), "1.23456e+02"},
	{math.Float64bits(1e9), "1.0e+09"},
	{math.Float64bits(1e10), "1.0e+10"},
	{math.Float64bits(1e22), "1.0e+22"},
	{math.Float64bits(1e23), "1.0e+23"},
	{math.Float64bits(1e99), "1.0e+99"},
	{math.Float64bits(1e100), "1.0e+100"},
	{math.Float64bits(1e-9), "1.0e-09"},
	{math.Float64bits(1e-10), "1.0e-10"},
	{math.Float64bits(1e-99), "1.0e-99"},
	{math.Float64bits(1e-100), "1.0e-100"},
	{math.Float64bits(1 << 53), "9.007199254740992e+15"},
	{math.Float64bits(1<<53 + 2), "9.007199254740994e+15"},
	{math.Float64bits(1 << 62), "4.611686018427388e+18"},
	{math.Float64bits(5e20), "5.0e+20"},
	{math.Float64bits(math.Pi), "3.141592653589793e+00"},
}

func TestFloats(t *testing.T) {
	for _, f := range floats {
		wantPrint(t, lit(api.F64, f.bits), asPrinted(f.text))
	}
	for _, x := range []struct{ src, want string }{
		{"0.0", "0.0e+00"}, {"000.000", "0.0e+00"}, {"0.0e-5", "0.0e+00"}, {"1.0e-999", "0.0e+00"}, {"00100.00", "1.0e+02"}, {"1.50", "1.5e+00"},
		{"15.0e-1", "1.5e+00"}, {"1.5e0", "1.5e+00"}, {"1.5e+007", "1.5e+07"}, {"0.1000000000000000055511151231257827", "1.0e-01"}, {"9007199254740993.0", "9.007199254740992e+15"},
	} {
		wantExpr(t, x.src, x.want)
	}
}

var floatForm = regexp.MustCompile(`^[0-9]\.[0-9]+e[+-][0-9][0-9]+$`)

// digitsOf are a float's digits in its text, without the nought that fills up the form, and the text's exponent.
func digitsOf(t *testing.T, text string) (string, int) {
	t.Helper()
	if !floatForm.MatchString(text) {
		t.Fatalf("%s is not of the form", text)
	}
	digits, exponent := text[:1]+text[2:strings.Index(text, "e")], text[strings.Index(text, "e")+1:]
	if len(exponent) > 3 && exponent[1] == '0' {
		t.Errorf("%s: an exponent with a nought ahead", text)
	}
	if len(digits) == 2 {
		digits = strings.TrimSuffix(digits, "0")
	}
	n, err := strconv.Atoi(exponent)
	if err != nil {
		t.Fatalf("%s: %v", text, err)
	}
	return digits, n
}

// fewer tells whether some row with a digit less is read as a float, too: the two rows that are nearest to it, at either side.
func fewer(f float64, digits int) bool {
	exact := strings.ReplaceAll(strconv.FormatFloat(f, 'e', 1100, 64), ".", "")
	row, exponent, _ := strings.Cut(exact, "e")
	power, _ := strconv.Atoi(exponent)
	below, _ := new(big.Int).SetString(row[:digits-1], 10)
	for _, n := range []*big.Int{below, new(big.Int).Add(below, big.NewInt(1))} {
		text := n.String() + "e" + strconv.Itoa(power-(digits-2))
		if g, _ := strconv.ParseFloat(text, 64); g == f {
			return true
		}
	}
	return false
}

// wantShortest asks that the text of a float is of the form, read as that float, and that no shorter one is.
func wantShortest(t *testing.T, bits uint64) {
	t.Helper()
	text, err := spell.Print(lit(api.F64, bits))
	if err != api.OK {
		t.Fatalf("%x: %v", bits, err)
	}
	back, fault := syntax.Parse(text)
	if fault != (api.Fault{}) || back.Nodes[0].Bits != bits {
		t.Fatalf("%x: %s is read as %x", bits, text, back.Nodes[0].Bits)
	}
	digits, _ := digitsOf(t, strings.TrimSuffix(strings.TrimPrefix(text, "func f() i64 {\n\tprint "), ";\n}\n"))
	if len(digits) > 1 && (strings.HasSuffix(digits, "0") || digits[0] == '0' || fewer(math.Float64frombits(bits), len(digits))) {
		t.Errorf("%x: %s is not the shortest", bits, text)
	}
}

func TestShortestFloats(t *testing.T) {
	for _, f := range floats {
		wantShortest(t, f.bits)
	}
	// Powers of two have nearer neighbours below than above.
	for exponent := range uint64(2047) {
		wantShortest(t, exponent<<52)
		wantShortest(t, exponent<<52+1)
		wantShortest(t, exponent<<52|(1<<52-1))
	}
	for i := range 52 {
		wantShortest(t, 1<<i)
	}
	for power := -323; power <= 308; power++ {
		f, _ := strconv.ParseFloat("1e"+strconv.Itoa(power), 64)
		bits := math.Float64bits(f)
		wantPrint(t, lit(api.F64, bits), asPrinted("1.0e"+signed(power)))
		wantShortest(t, bits+1)
		wantShortest(t, bits-1)
	}
	o := firstOdd
	for range 3000 {
		wantShortest(t, o.word()%0x7ff0000000000000)
		wantShortest(t, math.Float64bits(float64(o.below(100000))/100))
	}
}

// signed is an exponent as the form has it.
func signed(n int) string {
	sign := "+"
	if n < 0 {
		sign, n = "-", -n
	}
	if n < 10 {
		return sign + "0" + strconv.Itoa(n)
	}
	return sign + strconv.Itoa(n)
}
