package spell_test

import (
	"reflect"
	"slices"
	"strconv"
	"strings"
	"testing"

	"smithy/api"
	"smithy/spell"
	"smithy/syntax"
)

// taken is the tree of a source that must have no fault.
func taken(t *testing.T, src string) api.Tree {
	t.Helper()
	tree, f := syntax.Parse(src)
	if f != (api.Fault{}) {
		t.Fatalf("Parse(%s): %v; want a tree", short(src), f)
	}
	return tree
}

// inBody is a source with some statements in a function's body.
func inBody(stmts string) string { return "func f() i64 {" + stmts + "}" }

// wantPrint asks for just this text, and that it is read again as the tree it is of, and printed again the same.
func wantPrint(t *testing.T, tree api.Tree, want string) {
	t.Helper()
	text, err := spell.Print(tree)
	if err != api.OK || text != want {
		t.Errorf("Print: %v, %s; want %s", err, short(text), short(want))
		return
	}
	if len(text) > api.MaxSource {
		return
	}
	back, f := syntax.Parse(text)
	if f != (api.Fault{}) || !spell.Same(back, tree) || !alike(back, tree) {
		t.Errorf("%s: not read as it was: %v", short(text), f)
	}
	if again, err := spell.Print(back); err != api.OK || again != text {
		t.Errorf("%s: printed again as %s", short(text), short(again))
	}
}

// wantBody asks how some statements are printed in a function's body; lines that are wanted are given one by one, without the tab that all of them have.
func wantBody(t *testing.T, stmts string, lines ...string) {
	t.Helper()
	want := "func f() i64 {\n"
	for _, line := range lines {
		want += "\t" + line + "\n"
	}
	wantPrint(t, taken(t, inBody(stmts)), want+"}\n")
}

// wantExpr asks how an expression is printed.
func wantExpr(t *testing.T, src, want string) {
	t.Helper()
	wantBody(t, "x="+src+";", "x = "+want+";")
}

func wantRefused(t *testing.T, tree api.Tree, what string) {
	t.Helper()
	if text, err := spell.Print(tree); text != "" || err != api.ErrShape {
		t.Errorf("%s: Print tells %s, %v; want ErrShape", what, short(text), err)
	}
}

// copied is a tree of its own.
func copied(t api.Tree) api.Tree {
	t.Nodes, t.Funcs = slices.Clone(t.Nodes), slices.Clone(t.Funcs)
	for i := range t.Nodes {
		t.Nodes[i].Kids = slices.Clone(t.Nodes[i].Kids)
	}
	for i := range t.Funcs {
		t.Funcs[i].Params = slices.Clone(t.Funcs[i].Params)
	}
	return t
}

// placed is a tree of its own with all places told by at.
func placed(t api.Tree, at func() int) api.Tree {
	t = copied(t)
	for i := range t.Nodes {
		t.Nodes[i].At = at()
	}
	for i := range t.Funcs {
		t.Funcs[i].At = at()
		for j := range t.Funcs[i].Params {
			t.Funcs[i].Params[j].At = at()
		}
	}
	return t
}

func nowhere() int { return 0 }

// bare is a tree without places, and with none where a list is empty.
func bare(t api.Tree) api.Tree {
	t = placed(t, nowhere)
	for i, n := range t.Nodes {
		if len(n.Kids) == 0 {
			t.Nodes[i].Kids = nil
		}
	}
	for i, f := range t.Funcs {
		if len(f.Params) == 0 {
			t.Funcs[i].Params = nil
		}
	}
	return api.Tree{Nodes: append([]api.Node{}, t.Nodes...), Funcs: append([]api.Func{}, t.Funcs...)}
}

// alike is what Same must tell.
func alike(a, b api.Tree) bool { return reflect.DeepEqual(bare(a), bare(b)) }

// short is a text as a remark of a test shows it.
func short(text string) string {
	if len(text) > 300 {
		text = text[:150] + " .. " + text[len(text)-100:]
	}
	return strconv.Quote(text)
}

// odds are numbers without a pattern, the same ones each time.
type odds uint64

const firstOdd odds = 0x9e3779b97f4a7c15

func (o *odds) word() uint64 {
	w := uint64(*o)
	w ^= w << 13
	w ^= w >> 7
	w ^= w << 17
	*o = odds(w)
	return w * 0x2545f4914f6cdd1d
}

func (o *odds) below(n int) int { return int(o.word() >> 33 % uint64(n)) }

func pick[T any](o *odds, l ...T) T { return l[o.below(len(l))] }

// operators of two, by rows of the grammar, from the loosest on.
var rows = [][]string{{"||"}, {"&&"}, {"==", "!=", "<", "<=", ">", ">="}, {"+", "-", "|", "^"}, {"*", "/", "%", "&", "<<", ">>"}}

var (
	ops = map[string]api.Op{
		"+": api.OpAdd, "-": api.OpSub, "*": api.OpMul, "/": api.OpDiv, "%": api.OpRem, "&": api.OpAnd, "|": api.OpOr, "^": api.OpXor, "<<": api.OpShl, ">>": api.OpShr,
		"==": api.OpEq, "!=": api.OpNe, "<": api.OpLt, "<=": api.OpLe, ">": api.OpGt, ">=": api.OpGe,
	}
	types = map[string]api.Type{"bool": api.Bool, "u8": api.U8, "i32": api.I32, "i64": api.I64, "f64": api.F64}
)

// everything is a source with nodes of all kinds, more than one function, and calls, blocks and parameters with none, one and more in them.
const everything = `func f(a i64, b u8) i64 {
	var c i32 = 5i32; var d [7] f64; c = -a + b * 2; d[a] = 0.5; g(a, b, 1);
	if a < b && true { break; } else if !b || a == 1 { continue; } else { print d[1]; }
	while u8(a) != 255u8 { g(); }
	return (a - b) - (a - b);
}
func g() bool { return false; }
func h(x f64) f64 { }
`

// printedEverything is everything as the chapter asks for it.
const printedEverything = `func f(a i64, b u8) i64 {
	var c i32 = 5i32;
	var d [7]f64;
	c = -a + b * 2;
	d[a] = 5.0e-01;
	g(a, b, 1);
	if a < b && true {
		break;
	} else if !b || a == 1 {
		continue;
	} else {
		print d[1];
	}
	while u8(a) != 255u8 {
		g();
	}
	return a - b - (a - b);
}
func g() bool {
	return false;
}
func h(x f64) f64 {
}
`

func TestEverything(t *testing.T) {
	tree := taken(t, everything)
	wantPrint(t, tree, printedEverything)
	kinds := map[api.NodeKind]bool{}
	for _, n := range tree.Nodes {
		kinds[n.Kind] = true
	}
	if len(kinds) != int(api.NodeBlock) {
		t.Errorf("only %d kinds of nodes", len(kinds))
	}
}

// nested is a tree of one function whose body holds one expression, the last of some nodes.
func nested(nodes ...api.Node) api.Tree {
	last := len(nodes) - 1
	nodes = append(slices.Clone(nodes), api.Node{Kind: api.NodePrint, Kids: []int{last}}, api.Node{Kind: api.NodeBlock, Kids: []int{last + 1}})
	return api.Tree{Nodes: nodes, Funcs: []api.Func{{Name: "f", Result: api.I64, Body: last + 2}}}
}

// asPrinted is the text of a tree that nested makes.
func asPrinted(expr string) string {
	return "func f() i64 {\n\tprint " + expr + ";\n}\n"
}

func times(text string, n int) string { return strings.Repeat(text, n) }
