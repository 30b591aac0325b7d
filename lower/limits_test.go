package lower_test

import (
	"strconv"
	"strings"
	"testing"

	"smithy/api"
)

// functions is a source of so many: each tells its number, the last one the sum of all ahead of it.
func functions(n int) string {
	var all strings.Builder
	sum := "0"
	for i := range n - 1 {
		name := "f" + strconv.Itoa(i)
		all.WriteString("func " + name + "() i64 { return " + strconv.Itoa(i) + "; } ")
		sum += " + " + name + "()"
	}
	return all.String() + "func sum() i64 { return " + sum + "; }"
}

// manyVars declares so many variables, then prints all of them.
func manyVars(n int) string {
	declared, printed := "", ""
	for i := range n {
		name := "v" + string(rune('a'+i/10)) + string(rune('a'+i%10))
		declared += " var " + name + " i64 = " + strconv.Itoa(i) + ";"
		printed += " print " + name + ";"
	}
	return declared + printed
}

func upTo(n int) []int {
	var l []int
	for i := range n {
		l = append(l, i)
	}
	return l
}

func TestMostFunctions(t *testing.T) {
	p := programOf(t, functions(api.MaxFuncs))
	p.f = api.MaxFuncs - 1
	if _, done := p.wantKept(t, many, many); !showTheSame(done, told(62*63/2, 2)) {
		t.Errorf("%v", done)
	}
}

func TestMostLocals(t *testing.T) {
	wantRun(t, "func f() i64 {"+manyVars(api.MaxLocals)+" }", nil, told(0, 1, whole(upTo(api.MaxLocals)...)...))
	wantRun(t, "func f(a i64, b u8, c bool, d f64, e i32, g i64, h u8, i bool) i64 { print a; print b; print c; print d; print e; print g; print h; print i; }", []uint64{minus(1), 2, 1, bits(4.5), minus(5), 6, 7, 0},
		told(0, 1, api.Show{Type: api.I64, Bits: minus(1)}, api.Show{Type: api.U8, Bits: 2}, api.Show{Type: api.Bool, Bits: 1}, api.Show{Type: api.F64, Bits: bits(4.5)},
			api.Show{Type: api.I32, Bits: minus(5)}, api.Show{Type: api.I64, Bits: 6}, api.Show{Type: api.U8, Bits: 7}, api.Show{Type: api.Bool}))
	// As many words as there may be, each its own.
	wantRun(t, "func f() i64 { var a[256] i64; var b[256] i64; var c[256] i64; var d[254] i64; var i i64 = 0; var s i64 = 0; "+
		"while i < 254 { a[i] = i; b[i] = i + 1000; c[i] = i + 2000; d[i] = i + 3000; i = i + 1; } "+
		"i = 0; while i < 254 { if a[i] != i || b[i] != i + 1000 || c[i] != i + 2000 || d[i] != i + 3000 { print i; } i = i + 1; } return b[255] + d[253]; }", nil, told(3253, 1))
}

// As deep as the grammar lets it, each kind of nesting is gone through to its end.
func TestDeepestNests(t *testing.T) {
	const deep = api.MaxNest - 2
	for _, c := range []struct {
		open, close string
		n           int
		want        uint64
		depth       int
	}{
		{"g(", ")", deep, 5 + deep, 2}, {"-", "", deep, 5, 1}, {"!", "", deep, 5, 1}, {"i64(", ")", deep, 5, 1}, {"l[", "]", deep, 5, 1},
		{"1 + (", ")", deep, 5 + deep, 1}, {"2 - (", ")", deep, 5, 1}, {"0 * (1 + ", ")", deep, 0, 1}, {"l[5 + 0 * (", ")]", deep / 2, 5, 1},
	} {
		wantRun(t, "func f() i64 { var l[9] i64; l[5] = 5; return "+times(c.open, c.n)+"5"+times(c.close, c.n)+"; } func g(a i64) i64 { return a + 1; }", nil, told(c.want, c.depth))
	}
	const blocks = api.MaxNest - 1
	for _, open := range []string{"if true { ", "while true { ", "if false { } else { "} {
		wantRun(t, "func f() i64 { "+times(open, blocks)+"print 1; return 7; "+times("print 2; } ", blocks)+"}", nil, told(7, 1, whole(1)...))
	}
	wantRun(t, "func f() i64 { "+times("if false { } else ", blocks-1)+"{ print 1; return 7; } print 2; }", nil, told(7, 1, whole(1)...))
	wantRun(t, "func f() i64 { while true { "+times("if true { ", blocks-1)+"break; "+times("print 2; } ", blocks-1)+"} return 7; }", nil, told(7, 1))
	wantRun(t, "func f() i64 { var i i64 = 0; while i < 2 { i = i + 1; "+times("if true { ", blocks-1)+"continue; "+times("print 2; } ", blocks-1)+"} return 7; }", nil, told(7, 1))
	wantRun(t, "func f() i64 { "+times("while true { ", blocks)+"break; "+times("} break; ", blocks-1)+"} return 7; }", nil, told(7, 1))
	// Operands of all calls that are open wait for one another.
	wide := "1"
	for range deep {
		wide = "g(1, 2, " + wide + ", 3, 4, 5, 6, 7)"
	}
	wantRun(t, "func f() i64 { return "+wide+"; } func g(a i64, b i64, c i64, d i64, e i64, h i64, i i64, j i64) i64 { if a * 100 + b * 10 + d != 123 || e + h + i + j != 22 { print a; } return c + 1; }", nil, told(1+deep, 2))
}

// long is a source of nearly as many bytes as there may be: a piece as often as it goes in.
func long(head, piece, tail string) (string, int) {
	n := (api.MaxSource - len(head) - len(tail)) / len(piece)
	return head + times(piece, n) + tail, n
}

// Sources as long as they may be stay far below what a graph may have, and mean what they do.
func TestLongSources(t *testing.T) {
	for _, c := range []struct {
		head, piece, tail string
		args              []uint64
		want              func(n int) uint64
	}{
		{"func f(a i64) i64 { return a", "+a", "; }", []uint64{3}, func(n int) uint64 { return 3 * uint64(n+1) }},
		{"func f(a i64) i64 { return a", "/a", "; }", []uint64{1}, func(int) uint64 { return 1 }},
		{"func f(a i64) i64 { return a", "%a", "; }", []uint64{1}, func(int) uint64 { return 0 }},
		{"func f(a i64) i64 { return 0", "-(1-a)", "; }", []uint64{3}, func(n int) uint64 { return 2 * uint64(n) }},
		{"func f(a bool) bool { return a", "&&a", "; }", []uint64{1}, func(int) uint64 { return 1 }},
		{"func f(a bool) bool { return a", "&&a", "; }", []uint64{0}, func(int) uint64 { return 0 }},
		{"func f(a bool) bool { return a", "||a", "; }", []uint64{0}, func(int) uint64 { return 0 }},
		{"func f(a bool) bool { return a", "||a&&a", "; }", []uint64{0}, func(int) uint64 { return 0 }},
		{"func f(i i64) u8 { var a[1] u8; a[0]=1u8; return a[0]", "+a[i]", "; }", []uint64{0}, func(n int) uint64 { return uint64(uint8(n + 1)) }},
		{"func f(a f64) u8 { return 0u8", "+u8(a)", "; }", []uint64{bits(1.5)}, func(n int) uint64 { return uint64(uint8(n)) }},
		{"func f() i64 { return 0", "+g()", "; } func g() i64 { return 2; }", nil, func(n int) uint64 { return 2 * uint64(n) }},
		{"func f(a i64) i64 { ", "a=a+1;", "return a; }", []uint64{0}, func(n int) uint64 { return uint64(n) }},
		{"func f(a i64) i64 { var l[1]i64; ", "l[a]=1;", "return l[a]; }", []uint64{0}, func(int) uint64 { return 1 }},
		{"func f(p bool) bool { ", "if p{}", "return p; }", []uint64{1}, func(int) uint64 { return 1 }},
		{"func f(p bool) bool { ", "if p{}else{}", "return p; }", []uint64{0}, func(int) uint64 { return 0 }},
		{"func f(p bool) bool { ", "while p{}", "return p; }", []uint64{0}, func(int) uint64 { return 0 }},
		{"func f(p bool) bool { ", "while p{break;}", "return p; }", []uint64{1}, func(int) uint64 { return 1 }},
		{"func f(p bool) bool { while p { ", "if p{break;}", "} return p; }", []uint64{1}, func(int) uint64 { return 1 }},
		{"func f(p bool) bool { ", "return p;", "}", []uint64{1}, func(int) uint64 { return 1 }},
		{"func f(p bool) bool { while p { ", "break;", "} return p; }", []uint64{1}, func(int) uint64 { return 1 }},
	} {
		src, n := long(c.head, c.piece, c.tail)
		p := programOf(t, src, c.args...)
		if _, done := p.wantKept(t, many, many); done.End != api.Told || done.Value != c.want(n) {
			t.Errorf("%s: %v; want to be told %d", short(src), done, c.want(n))
		}
		for _, g := range p.graphs {
			if len(g.Vars) > api.MaxVars/8 || len(g.Blocks) > api.MaxBlocks/8 {
				t.Errorf("%s: %d variables, %d blocks", short(src), len(g.Vars), len(g.Blocks))
			}
		}
	}
}

// rowOf is a tree whose one function, of a type, tells a row of so many operators, all of one sort, of literals of a word.
func rowOf(n api.Node, length int, u api.Type, word uint64) api.Tree {
	nodes := []api.Node{{Kind: api.NodeLit, Type: u, Bits: word}}
	left := 0
	for range length {
		nodes = append(nodes, api.Node{Kind: api.NodeLit, Type: u, Bits: word}, n)
		nodes[len(nodes)-1].Kids = []int{left, len(nodes) - 2}
		left = len(nodes) - 1
	}
	nodes = append(nodes, api.Node{Kind: api.NodeReturn, Kids: []int{left}}, api.Node{Kind: api.NodeBlock, Kids: []int{left + 1}})
	return api.Tree{Nodes: nodes, Funcs: []api.Func{{Name: "f", Result: u, Body: left + 2}}}
}

// A tree may be longer than a source, and a row of operators is nested as deep as it is long.
func TestLongRows(t *testing.T) {
	const length = 1 << 18
	for _, c := range []struct {
		node api.Node
		of   api.Type
		word uint64
		want uint64
	}{
		{api.Node{Kind: api.NodeBinary, Op: api.OpAdd}, api.I64, 3, 3 * (length + 1)},
		{api.Node{Kind: api.NodeBinary, Op: api.OpSub}, api.I64, 1, 1<<64 - length + 1},
		{api.Node{Kind: api.NodeBinary, Op: api.OpDiv}, api.I64, 1, 1},
		{api.Node{Kind: api.NodeBoth}, api.Bool, 1, 1},
		{api.Node{Kind: api.NodeEither}, api.Bool, 0, 0},
	} {
		tree := rowOf(c.node, length, c.of, c.word)
		p := program{"a long row", tree, lowered(t, tree, "a long row"), 0, nil}
		if trace := ran(t, p.graphs, 0, nil, many, 1, p.src); !showTheSame(trace, told(c.want, 1)) {
			t.Errorf("a row of %d: %v; want to be told %d", length, trace, c.want)
		}
	}
}
