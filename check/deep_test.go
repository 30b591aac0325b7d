package check_test

import (
	"testing"

	"smithy/api"
	"smithy/check"
)

// rowOf is a tree that prints a row of so many operators, all of one sort, of literals of a type; the node at the place n is at n.
func rowOf(n api.Node, many int, u api.Type) api.Tree {
	nodes := []api.Node{{Kind: api.NodeLit, Type: u}}
	left := 0
	for range many {
		nodes = append(nodes, api.Node{Kind: api.NodeLit, Type: u}, n)
		nodes[len(nodes)-1].Kids = []int{left, len(nodes) - 2}
		left = len(nodes) - 1
	}
	nodes = append(nodes, api.Node{Kind: api.NodePrint, Kids: []int{left}}, api.Node{Kind: api.NodeBlock, Kids: []int{left + 1}})
	for i := range nodes {
		nodes[i].At = i
	}
	return api.Tree{Nodes: nodes, Funcs: []api.Func{{Name: "f", Result: api.I64, Body: left + 2}}}
}

// A row of operators is nested as deep as it is long.
func TestLongRows(t *testing.T) {
	const many, last = 1 << 16, 2 << 16
	for _, n := range []api.Node{{Kind: api.NodeBinary, Op: api.OpAdd}, {Kind: api.NodeBoth}, {Kind: api.NodeEither}} {
		u := api.I64
		if n.Kind != api.NodeBinary {
			u = api.Bool
		}
		tree := rowOf(n, many, u)
		info, f := check.Check(tree)
		if f != (api.Fault{}) || len(info.Types) != len(tree.Nodes) || info.Types[last] != u {
			t.Fatalf("a row of %d: Check tells %v", many, f)
		}
		for _, c := range []struct{ node, at int }{{0, 2}, {1, 2}, {last - 3, last - 2}, {last - 1, last}} {
			was := tree.Nodes[c.node].Type
			tree.Nodes[c.node].Type = api.U8
			wantTreeFault(t, tree, api.Fault{Err: api.ErrType, At: c.at}, "a long row")
			tree.Nodes[c.node].Type = was
		}
	}
}

// As deep as the grammar lets it, each kind of nesting is gone through to its end.
func TestDeepestNests(t *testing.T) {
	const deep = api.MaxNest - 1
	for _, c := range []struct {
		err         api.Errno
		open, close string
	}{
		{api.ErrName, "f(", ")"}, {api.ErrName, "-", ""}, {api.ErrName, "i64(", ")"}, {api.ErrName, "v[", "]"}, {api.ErrName, "1 - (", ")"}, {api.ErrName, "1 * (1 + ", ")"},
	} {
		src := "func f(a i64) i64 { var v[1] i64; print " + times(c.open, deep-1)
		behind := times(c.close, deep-1) + "; }"
		wantNone(t, src+"a"+behind)
		wantFault(t, c.err, src+"@y"+behind)
	}
	for _, open := range []string{"if true {", "while true {", "if true {} else {"} {
		src := "func f(a i64) i64 { " + times(open, deep)
		behind := times("}", deep) + " }"
		wantNone(t, src+" a = 1; "+behind)
		wantFault(t, api.ErrName, src+" @y = 1; "+behind)
		wantNone(t, src+" var b i64 = 1; "+behind[:deep]+" var b u8 = 1u8; }")
	}
	chain := "func f(a i64) i64 { if true {} " + times("else if true {} ", deep-1)
	wantNone(t, chain+"}")
	wantFault(t, api.ErrName, chain+"print @y; }")
}
