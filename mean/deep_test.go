package mean_test

import (
	"testing"

	"smithy/api"
)

// rowOf is a tree whose one function, of a type, tells a row of so many operators, all of one sort, of literals of a word.
func rowOf(n api.Node, length int, u api.Type, word uint64) api.Tree {
	nodes := []api.Node{{Kind: api.NodeLit, Type: u, Bits: word}}
	left := 0
	for range length {
		nodes = append(nodes, api.Node{Kind: api.NodeLit, Type: u, Bits: word}, n)
		nodes[len(nodes)-1].Kids = []int{left, len(nodes) - 2}
		left = len(nodes) - 1
	}
	nodes = append(nodes, api.Node{Kind: api.NodeReturn, Kids: []int{left}}, api.Node{Kind: api.NodeBlock, Kids: []int{left + 1}})
	return api.Tree{Nodes: nodes, Funcs: []api.Func{{Name: "f", Result: u, Body: left + 2}}}
}

// A row of operators is nested as deep as it is long.
func TestLongRows(t *testing.T) {
	const length = 1 << 16
	for _, c := range []struct {
		node api.Node
		of   api.Type
		word uint64
		want uint64
	}{
		{api.Node{Kind: api.NodeBinary, Op: api.OpAdd}, api.I64, 3, 3 * (length + 1)},
		{api.Node{Kind: api.NodeBinary, Op: api.OpSub}, api.I64, 1, 1<<64 - length + 1},
		{api.Node{Kind: api.NodeBoth}, api.Bool, 1, 1},
		{api.Node{Kind: api.NodeBoth}, api.Bool, 0, 0},
		{api.Node{Kind: api.NodeEither}, api.Bool, 1, 1},
		{api.Node{Kind: api.NodeEither}, api.Bool, 0, 0},
	} {
		if trace := ran(t, rowOf(c.node, length, c.of, c.word), 0, nil, 1, 1, "a long row"); !same(trace, told(c.want, 1, 1)) {
			t.Errorf("a row of %d: %v; want to be told %d", length, trace, c.want)
		}
	}
}

// Calls live in one another as deep as is handed in, whatever each of them stands in.
func TestManyCallsAtOnce(t *testing.T) {
	const deep = 300000
	wantRun(t, "func f(n i64) i64 { if n == 1 { return 1; } return f(n - 1) + 1; }", []uint64{deep}, deep, deep, told(deep, deep, deep))
	wantRun(t, "func f(n i64) i64 { if n == 1 { return 1; } return f(n - 1) + 1; }", []uint64{deep}, deep, deep-1, tooDeep(deep-1, deep-1))
	wantRun(t, "func f(n i64) i64 { return f(n + 1); }", []uint64{0}, deep, many, outOfSteps(deep, deep))
	wantRun(t, "func f(n i64) i64 { if n == 0 { return 1 / n; } f(n - 1); }", []uint64{deep - 1}, deep, deep, trapped(api.TrapZero, deep, deep))
	const nested = 1 << 16
	within := "func f(n i64) i64 { var a[20] i64; a[3] = n; if n > 1 { " + times("if true { ", 10) + "return " + times("-(1 + ", 8) + "f(n - 1) + a[3]" + times(")", 8) + "; " + times("} ", 10) + "} return 0; }"
	wantRun(t, within, []uint64{nested}, nested, nested, told((nested+2)*(nested-1)/2, nested, nested))
}

// As deep as the grammar lets it, each kind of nesting is gone through to its end.
func TestDeepestNests(t *testing.T) {
	const deep = api.MaxNest - 2
	for _, c := range []struct {
		open, close string
		want        uint64
	}{
		{"g(", ")", 5 + deep}, {"-", "", 5}, {"!", "", 5}, {"i64(", ")", 5}, {"l[", "]", 5}, {"1 + (", ")", 5 + deep}, {"2 - (", ")", 5}, {"0 * (1 + ", ")", 0},
	} {
		src := "func f() i64 { var l[9] i64; l[5] = 5; return " + times(c.open, deep) + "5" + times(c.close, deep) + "; } func g(a i64) i64 { return a + 1; }"
		trace := ran(t, taken(t, src), 0, nil, many, 2, src)
		if trace.End != api.Told || trace.Value != c.want {
			t.Errorf("%s: %v; want to be told %d", src, trace, c.want)
		}
	}
	const blocks = api.MaxNest - 1
	for _, open := range []string{"if true { ", "while true { ", "if false { } else { "} {
		src := "func f() i64 { " + times(open, blocks) + "print 1; return 7; " + times("print 2; } ", blocks) + "}"
		trace := ran(t, taken(t, src), 0, nil, many, 1, src)
		if trace.End != api.Told || trace.Value != 7 || len(trace.Shows) != 1 {
			t.Errorf("%s: %v; want to be told 7, and to be shown 1", src, trace)
		}
	}
	wantRun(t, "func f() i64 { while true { "+times("if true { ", blocks-1)+"break; "+times("print 2; } ", blocks-1)+"} return 7; }", nil, many, 1, told(7, 2, 1))
	wantRun(t, "func f() i64 { var i i64 = 0; while i < 2 { i = i + 1; "+times("if true { ", blocks-1)+"continue; "+times("print 2; } ", blocks-1)+"} return 7; }", nil, many, 1, told(7, 4, 1))
	wantRun(t, "func f() i64 { "+times("while true { ", blocks)+"break; "+times("} break; ", blocks-1)+"} return 7; }", nil, many, 1, told(7, 1+blocks, 1))
}
