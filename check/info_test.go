package check_test

import (
	"testing"

	"smithy/api"
)

// row is what is told of one node.
type row struct {
	kind  api.NodeKind
	u     api.Type
	means int
}

// wantRows asks what is told of each node of a source, and of its functions' locals.
func wantRows(t *testing.T, src string, rows []row, locals ...[]api.Local) {
	t.Helper()
	tree := taken(t, src)
	want := api.Info{Locals: locals}
	for i, r := range rows {
		if i < len(tree.Nodes) && tree.Nodes[i].Kind != r.kind {
			t.Fatalf("%s: node %d is of kind %d; want %d", src, i, tree.Nodes[i].Kind, r.kind)
		}
		want.Types = append(want.Types, r.u)
		want.Means = append(want.Means, r.means)
	}
	wantInfo(t, tree, want, src)
}

func TestInfoOfStatements(t *testing.T) {
	wantRows(t, "func f(p u8, q f64) i64 { var a bool = true; var b[5] i32; a = false; b[0] = 1i32; return 5; }", []row{
		{api.NodeLit, api.Bool, -1},
		{api.NodeVar, api.NoType, 2},
		{api.NodeArray, api.NoType, 3},
		{api.NodeLit, api.Bool, -1},
		{api.NodeSet, api.NoType, 2},
		{api.NodeLit, api.I64, -1},
		{api.NodeLit, api.I32, -1},
		{api.NodePut, api.NoType, 3},
		{api.NodeLit, api.I64, -1},
		{api.NodeReturn, api.NoType, -1},
		{api.NodeBlock, api.NoType, -1},
	}, []api.Local{{Name: "p", Type: api.U8}, {Name: "q", Type: api.F64}, {Name: "a", Type: api.Bool}, {Name: "b", Type: api.I32, Size: 5}})
	wantRows(t, "func f() u8 { while true { if false { break; } else { continue; } } print 1.5; f(); }", []row{
		{api.NodeLit, api.Bool, -1},
		{api.NodeLit, api.Bool, -1},
		{api.NodeBreak, api.NoType, -1},
		{api.NodeBlock, api.NoType, -1},
		{api.NodeNext, api.NoType, -1},
		{api.NodeBlock, api.NoType, -1},
		{api.NodeIf, api.NoType, -1},
		{api.NodeBlock, api.NoType, -1},
		{api.NodeWhile, api.NoType, -1},
		{api.NodeLit, api.F64, -1},
		{api.NodePrint, api.NoType, -1},
		{api.NodeCall, api.U8, 0},
		{api.NodeDo, api.NoType, -1},
		{api.NodeBlock, api.NoType, -1},
	}, nil)
}

func TestInfoOfExpressions(t *testing.T) {
	wantRows(t, "func g() bool {} func f(a i32, b u8) f64 { var c[3] u8; print f64(-a) < f(a + 2i32, c[1] ^ !b) && g() || a == 1i32; }", []row{
		{api.NodeBlock, api.NoType, -1},
		{api.NodeArray, api.NoType, 2},
		{api.NodeName, api.I32, 0},
		{api.NodeUnary, api.I32, -1},
		{api.NodeCast, api.F64, -1},
		{api.NodeName, api.I32, 0},
		{api.NodeLit, api.I32, -1},
		{api.NodeBinary, api.I32, -1},
		{api.NodeLit, api.I64, -1},
		{api.NodeItem, api.U8, 2},
		{api.NodeName, api.U8, 1},
		{api.NodeUnary, api.U8, -1},
		{api.NodeBinary, api.U8, -1},
		{api.NodeCall, api.F64, 1},
		{api.NodeBinary, api.Bool, -1},
		{api.NodeCall, api.Bool, 0},
		{api.NodeBoth, api.Bool, -1},
		{api.NodeName, api.I32, 0},
		{api.NodeLit, api.I32, -1},
		{api.NodeBinary, api.Bool, -1},
		{api.NodeEither, api.Bool, -1},
		{api.NodePrint, api.NoType, -1},
		{api.NodeBlock, api.NoType, -1},
	}, nil, []api.Local{{Name: "a", Type: api.I32}, {Name: "b", Type: api.U8}, {Name: "c", Type: api.U8, Size: 3}})
}

// Locals of one name in several blocks are several; each name stands for the one that is seen.
func TestInfoOfNamesTakenAgain(t *testing.T) {
	wantRows(t, "func f() i64 { if true { var a u8 = 1u8; print a; } else { var a[2] bool; print a[0]; } var a f64 = 0.5; print a; }", []row{
		{api.NodeLit, api.Bool, -1},
		{api.NodeLit, api.U8, -1},
		{api.NodeVar, api.NoType, 0},
		{api.NodeName, api.U8, 0},
		{api.NodePrint, api.NoType, -1},
		{api.NodeBlock, api.NoType, -1},
		{api.NodeArray, api.NoType, 1},
		{api.NodeLit, api.I64, -1},
		{api.NodeItem, api.Bool, 1},
		{api.NodePrint, api.NoType, -1},
		{api.NodeBlock, api.NoType, -1},
		{api.NodeIf, api.NoType, -1},
		{api.NodeLit, api.F64, -1},
		{api.NodeVar, api.NoType, 2},
		{api.NodeName, api.F64, 2},
		{api.NodePrint, api.NoType, -1},
		{api.NodeBlock, api.NoType, -1},
	}, []api.Local{{Name: "a", Type: api.U8}, {Name: "a", Type: api.Bool, Size: 2}, {Name: "a", Type: api.F64}})
}

// Each function's locals are numbered anew; a call stands for its function, a local of that name for itself.
func TestInfoOfFunctions(t *testing.T) {
	wantRows(t, "func f(g u8) u8 { return g(g); } func g(f u8) u8 { var g u8 = f(f); return g; } func h() bool {}", []row{
		{api.NodeName, api.U8, 0},
		{api.NodeCall, api.U8, 1},
		{api.NodeReturn, api.NoType, -1},
		{api.NodeBlock, api.NoType, -1},
		{api.NodeName, api.U8, 0},
		{api.NodeCall, api.U8, 0},
		{api.NodeVar, api.NoType, 1},
		{api.NodeName, api.U8, 1},
		{api.NodeReturn, api.NoType, -1},
		{api.NodeBlock, api.NoType, -1},
		{api.NodeBlock, api.NoType, -1},
	}, []api.Local{{Name: "g", Type: api.U8}}, []api.Local{{Name: "f", Type: api.U8}, {Name: "g", Type: api.U8}}, nil)
}

func TestInfoOfTypes(t *testing.T) {
	for _, u := range types {
		wantRows(t, "func f(a "+u.word+") "+u.word+" { var b[3] "+u.word+"; b[0] = f("+u.literal+"); return b[1]; }", []row{
			{api.NodeArray, api.NoType, 1},
			{api.NodeLit, api.I64, -1},
			{api.NodeLit, u.Type, -1},
			{api.NodeCall, u.Type, 0},
			{api.NodePut, api.NoType, 1},
			{api.NodeLit, api.I64, -1},
			{api.NodeItem, u.Type, 1},
			{api.NodeReturn, api.NoType, -1},
			{api.NodeBlock, api.NoType, -1},
		}, []api.Local{{Name: "a", Type: u.Type}, {Name: "b", Type: u.Type, Size: 3}})
	}
}

func TestInfoOfNothing(t *testing.T) {
	wantInfo(t, api.Tree{}, api.Info{}, "no functions")
	wantInfo(t, api.Tree{Nodes: []api.Node{}, Funcs: []api.Func{}}, api.Info{}, "no functions")
	wantRows(t, "func f() i64 {}", []row{{api.NodeBlock, api.NoType, -1}}, nil)
}
