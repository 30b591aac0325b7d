package syntax_test

import (
	"math"
	"math/big"
	"strconv"
	"strings"
	"testing"

	"smithy/api"
	"smithy/syntax"
)

// literalText is how a literal of a type and a word is written; of other words it is no such literal.
func literalText(n api.Node) string {
	switch n.Type {
	case api.Bool:
		if n.Bits > 1 {
			return "2bool"
		}
		return strconv.FormatBool(n.Bits == 1)
	case api.F64:
		s := strconv.FormatFloat(math.Float64frombits(n.Bits), 'e', -1, 64)
		if !strings.Contains(s, ".") {
			s = strings.Replace(s, "e", ".0e", 1)
		}
		return s
	case api.I64:
		return strconv.FormatInt(int64(n.Bits), 10)
	}
	return strconv.FormatInt(int64(n.Bits), 10) + typeText(n.Type)
}

func wantLiteral(t *testing.T, text string, u api.Type, w uint64) {
	t.Helper()
	tree := taken(t, inBody("print "+text+";"))
	want := api.Node{Kind: api.NodeLit, At: len(head) + 6, Type: u, Bits: w}
	if len(tree.Nodes) != 3 || !equalNodes(tree.Nodes[0], want) {
		t.Errorf("%s: %v; want %v", short(text), tree.Nodes, want)
	}
}

func wantBeyond(t *testing.T, text string) {
	t.Helper()
	wantFault(t, inBody("print "+text+";"), api.ErrLiteral, len(head)+6)
	wantFault(t, inBody("a = 1 + "+text), api.ErrLiteral, len(head)+8)
	wantFault(t, inBody("while f(-"+text+" }"), api.ErrLiteral, len(head)+9)
}

func TestTruths(t *testing.T) {
	wantLiteral(t, "true", api.Bool, 1)
	wantLiteral(t, "false", api.Bool, 0)
}

func TestWholeLiteralsUpToTheGreatest(t *testing.T) {
	for _, c := range []struct {
		u    api.Type
		tail []string
		most uint64
	}{{api.U8, []string{"u8"}, 255}, {api.I32, []string{"i32"}, 1<<31 - 1}, {api.I64, []string{"", "i64"}, 1<<63 - 1}} {
		for _, tail := range c.tail {
			for _, ahead := range []string{"", "0", "0000000000000000000000000000000000000000"} {
				for _, n := range []uint64{0, 1, 7, 10, 99, 127, 128, c.most / 2, c.most/2 + 1, c.most - 1, c.most} {
					wantLiteral(t, ahead+strconv.FormatUint(n, 10)+tail, c.u, n)
				}
				for _, n := range []uint64{c.most + 1, c.most + 2, 2*c.most + 1, 1 << 63, 1<<63 + 1, 1<<64 - 256, 1<<64 - 2, 1<<64 - 1} {
					wantBeyond(t, ahead+strconv.FormatUint(n, 10)+tail)
				}
				for _, s := range []string{"18446744073709551616", "18446744073709551617", "36893488147419103232", "99999999999999999999999999999", strings.Repeat("9", 1000)} {
					wantBeyond(t, ahead+s+tail)
				}
			}
		}
	}
	wantLiteral(t, "010", api.I64, 10)
	wantLiteral(t, "08u8", api.U8, 8)
}

func TestFloatLiterals(t *testing.T) {
	for text, f := range map[string]float64{
		"0.0": 0, "0.5": 0.5, "1.0": 1, "00.5": 0.5, "2.50": 2.5, "0.1": 0.1, "1.5e3": 1500, "1.5e+3": 1500, "1.5e-3": 0.0015, "1.0e0": 1, "1.0e-0": 1, "12.5e00002": 1250,
		"9007199254740993.0": 9007199254740992, "9007199254740995.0": 9007199254740996, "9007199254740993.00000000000000000000000000001": 9007199254740994,
		"1.7976931348623157e308": math.MaxFloat64, "1.797693134862315807e308": math.MaxFloat64, "17976931348623157.0e292": math.MaxFloat64,
		"4.9e-324": math.SmallestNonzeroFloat64, "2.5e-324": math.SmallestNonzeroFloat64, "2.4e-324": 0, "2.2250738585072014e-308": 0x1p-1022,
		"1.0e-999": 0, "0.0e999": 0, "0.0e-999": 0, "0.0e99999999999999999999": 0, "1.0e-99999999999999999999999": 0, "0.00e+123456789": 0,
	} {
		wantLiteral(t, text, api.F64, math.Float64bits(f))
	}
	for _, text := range []string{
		"1.0e999", "1.0e+999", "1.0e309", "1.8e308", "1.7976931348623159e308",
		"1.0e99999999999999999999", "0.1e310", strings.Repeat("9", 400) + ".9", "0.0001e100000",
	} {
		wantBeyond(t, text)
	}
}

// Just between the greatest float and the next one there would be, ties go to the even one: to none.
func TestFloatsAtTheEdge(t *testing.T) {
	edge := new(big.Int).Lsh(big.NewInt(1<<54-1), 970)
	wantBeyond(t, edge.String()+".0")
	wantBeyond(t, edge.String()+".000001")
	below := new(big.Int).Sub(edge, big.NewInt(1))
	wantLiteral(t, below.String()+".0", api.F64, math.Float64bits(math.MaxFloat64))
	wantLiteral(t, below.String()+".99999", api.F64, math.Float64bits(math.MaxFloat64))
}

// An exponent that is made up for by the noughts of a long row counts to its last digit.
func TestFloatsWithLongRows(t *testing.T) {
	noughts := strings.Repeat("0", 65000)
	one := math.Float64bits(1)
	wantLiteral(t, "0."+noughts+"1e65001", api.F64, one)
	wantLiteral(t, "1"+noughts+".0e-65000", api.F64, one)
	wantLiteral(t, "1"+noughts+".0e-065000", api.F64, one)
	wantLiteral(t, "0."+noughts+"25e65002", api.F64, math.Float64bits(25))
	wantLiteral(t, "1"+noughts+".0e-100000", api.F64, 0)
	wantLiteral(t, "0."+noughts+"1e64000", api.F64, 0)
	wantFault(t, inBody("print 0."+noughts+"1e100000;"), api.ErrLiteral, len(head)+6)
	wantFault(t, inBody("print 1"+noughts+".0e-64000;"), api.ErrLiteral, len(head)+6)
	wantLiteral(t, strings.Repeat("3", 65000)+".0e-65000", api.F64, math.Float64bits(1.0/3))
}

// The nearest float, held against fractions without end.
func TestNearestFloats(t *testing.T) {
	o := firstOdd
	digits := func(n int) string {
		s := ""
		for range n {
			s += string(rune('0' + o.below(10)))
		}
		return s
	}
	beyond := 0
	for range 20000 {
		text := digits(1+o.below(20)) + "." + digits(1+o.below(20))
		if o.often(80) {
			text += "e" + pick(&o, "", "+", "-") + strconv.Itoa(o.below(345))
		}
		exact, _ := new(big.Rat).SetString(text)
		want, _ := exact.Float64()
		if math.IsInf(want, 0) {
			beyond++
			wantFault(t, inBody("print "+text+";"), api.ErrLiteral, len(head)+6)
			continue
		}
		wantLiteral(t, text, api.F64, math.Float64bits(want))
	}
	if beyond < 100 || beyond > 10000 {
		t.Errorf("%d of 20000 were beyond: too one-sided a test", beyond)
	}
}

// Halfway between two floats the even one is the nearest.
func TestTiesToEven(t *testing.T) {
	o := firstOdd
	for range 2000 {
		w := uint64(o.below(1<<31))<<32 | uint64(o.below(1<<31))
		if w = w % (uint64(2046) << 52); w>>52 == 0 {
			continue
		}
		low, high := new(big.Rat).SetFloat64(math.Float64frombits(w)), new(big.Rat).SetFloat64(math.Float64frombits(w+1))
		middle := new(big.Rat).Add(low, high)
		middle.Quo(middle, big.NewRat(2, 1))
		if !strings.Contains(middle.FloatString(1100), ".") {
			t.Fatal("no point")
		}
		wantLiteral(t, middle.FloatString(1100), api.F64, w+w%2)
	}
}

func TestArraySizes(t *testing.T) {
	for _, n := range []int{1, 2, 10, 99, 128, 255, 256} {
		for _, text := range []string{strconv.Itoa(n), "0" + strconv.Itoa(n), "000000000000000000000000" + strconv.Itoa(n)} {
			wantTree(t, inBody("var a["+text+"] u8;"), api.Tree{
				Nodes: []api.Node{{Kind: api.NodeArray, At: 15, Name: "a", Type: api.U8, Size: n}, {Kind: api.NodeBlock, At: 13, Kids: []int{0}}},
				Funcs: []api.Func{{Name: "f", At: 5, Result: api.I64, Body: 1}}})
		}
	}
	for _, text := range []string{"0", "00", "257", "258", "512", "1000", "65537", "4294967297", "9223372036854775807", "9223372036854775808", "18446744073709551617", strings.Repeat("1", 300), "0u8", "1u8", "3u8", "3i32", "3i64", "256i64", "257i64", "300u8"} {
		wantFault(t, inBody("var a["+text+"] u8;"), api.ErrLiteral, len(head)+6)
		wantFault(t, inBody("var a [ "+text), api.ErrLiteral, len(head)+8)
	}
	for _, text := range []string{"1.0", "256.0", "1.0e999", "a", "true", "]", "-1", "(1)", "u8", ""} {
		wantFault(t, inBody("var a["+text+"] u8;"), api.ErrSyntax, len(head)+6)
	}
	for text, at := range map[string]int{"1+1": 1, "1, 2": 1, "1 1": 2, "2;": 1, "256)": 3} {
		wantFault(t, inBody("var a["+text+"] u8;"), api.ErrSyntax, len(head)+6+at)
	}
}

// A literal that is beyond its type is a fault at once, one that can't stand there is no literal's fault.
func TestLiteralsFaultsByPlace(t *testing.T) {
	wantFault(t, inBody("print 256u8 print"), api.ErrLiteral, 21)
	wantFault(t, inBody("print 256u8 + $"), api.ErrText, 29)
	wantFault(t, inBody("print a 256u8;"), api.ErrSyntax, 23)
	wantFault(t, inBody("256u8 = 1;"), api.ErrSyntax, 15)
	wantFault(t, "256u8", api.ErrSyntax, 0)
	wantFault(t, "func f(256u8", api.ErrSyntax, 7)
	wantFault(t, inBody("var a 1.0e999"), api.ErrSyntax, 21)
	wantFault(t, inBody("print 256u8; print 1.0e999;"), api.ErrLiteral, 21)
	wantFault(t, inBody("print ; print 256u8;"), api.ErrSyntax, 21)
	wantFault(t, inBody("print "+strings.Repeat("-", 32)+"256u8;"), api.ErrNest, 52)
	wantFault(t, inBody("print 256u8 + "+strings.Repeat("-", 32)+"1;"), api.ErrLiteral, 21)
}

// What Parse tells of each literal is right.
func TestLiteralsAreRight(t *testing.T) {
	for _, text := range []string{"0", "9223372036854775807", "2147483647i32", "255u8", "0u8", "true", "false", "0.0", "4.9e-324", "1.7976931348623157e308"} {
		if !syntax.Right(taken(t, inBody("print "+text+";"))) {
			t.Errorf("%s is not right", text)
		}
	}
}
