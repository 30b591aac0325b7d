package syntax_test

import (
	"testing"

	"smithy/api"
	"smithy/syntax"
)

func TestExampleTree(t *testing.T) {
	src := "func f(a i64) bool { return a<1+2*3; }"
	wantTree(t, src, api.Tree{
		Nodes: []api.Node{
			{Kind: api.NodeName, At: 28, Name: "a"},
			{Kind: api.NodeLit, At: 30, Type: api.I64, Bits: 1},
			{Kind: api.NodeLit, At: 32, Type: api.I64, Bits: 2},
			{Kind: api.NodeLit, At: 34, Type: api.I64, Bits: 3},
			{Kind: api.NodeBinary, At: 33, Op: api.OpMul, Kids: []int{2, 3}},
			{Kind: api.NodeBinary, At: 31, Op: api.OpAdd, Kids: []int{1, 4}},
			{Kind: api.NodeBinary, At: 29, Op: api.OpLt, Kids: []int{0, 5}},
			{Kind: api.NodeReturn, At: 21, Kids: []int{6}},
			{Kind: api.NodeBlock, At: 19, Kids: []int{7}},
		},
		Funcs: []api.Func{{Name: "f", At: 5, Params: []api.Param{{Name: "a", At: 7, Type: api.I64}}, Result: api.Bool, Body: 8}},
	})
	if !syntax.Right(taken(t, src)) {
		t.Error("it is not right")
	}
}

func TestExampleRows(t *testing.T) {
	for s, full := range map[string]string{"1-2-3": "(1-2)-3", "-a*b": "(-a)*b", "a|b&c": "a|(b&c)", "!a==b": "(!a)==b", "a&&b||c": "(a&&b)||c"} {
		if !same(taken(t, inBody("return "+s+";")), taken(t, inBody("return "+full+";"))) {
			t.Errorf("%s is not %s", s, full)
		}
	}
}

func TestExampleFaults(t *testing.T) {
	wantFault(t, "x", api.ErrSyntax, 0)
	wantFault(t, "func f() i64 { return 1 }", api.ErrSyntax, 24)
	wantFault(t, "func f() i64 {", api.ErrSyntax, 14)
	wantFault(t, "func f() i64 { i64 = 1; }", api.ErrSyntax, 15)
	wantFault(t, "func f() i64 { a b; }", api.ErrSyntax, 17)
	wantFault(t, "func f() i64 { return i64; }", api.ErrSyntax, 25)
	for _, literal := range []string{"256u8", "2147483648i32", "9223372036854775808", "1.0e999"} {
		wantFault(t, inBody("return "+literal+";"), api.ErrLiteral, 22)
	}
	for _, size := range []string{"0", "257", "3u8"} {
		wantFault(t, inBody("var a ["+size+"] u8;"), api.ErrLiteral, 22)
	}
}

func TestExampleOfNothing(t *testing.T) {
	for _, src := range []string{"", " ", "\n\t\r ", "//", " // func f() i64 {}\n"} {
		wantTree(t, src, api.Tree{})
		if !syntax.Right(taken(t, src)) {
			t.Errorf("%q is not right", src)
		}
	}
}

// The document's second example: faults of tokens go first, those of names are not looked for here.
func TestExampleOfTheWhole(t *testing.T) {
	wantFault(t, "1.5e", api.ErrText, 4)
	wantFault(t, "func f() i64 { return 1 }", api.ErrSyntax, 24)
	taken(t, "func f() i64 { return x; }")
}
