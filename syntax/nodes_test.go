package syntax_test

import (
	"slices"
	"strings"
	"testing"

	"smithy/api"
	"smithy/syntax"
)

// wantNodes asks for the nodes of some statements, whose body follows as a block of those that are nobody's kid.
func wantNodes(t *testing.T, stmts string, want ...api.Node) {
	t.Helper()
	body := api.Node{Kind: api.NodeBlock, At: len(head) - 2}
	for i := range want {
		want[i].At += len(head)
		if !slices.ContainsFunc(want, func(n api.Node) bool { return slices.Contains(n.Kids, i) }) {
			body.Kids = append(body.Kids, i)
		}
	}
	tree := api.Tree{Nodes: append(want, body), Funcs: []api.Func{{Name: "f", At: 5, Result: api.I64, Body: len(want)}}}
	wantTree(t, inBody(stmts), tree)
	if !syntax.Right(tree) {
		t.Errorf("the tree of %q is not right", stmts)
	}
}

func name(at int, s string) api.Node { return api.Node{Kind: api.NodeName, At: at, Name: s} }

func number(at int, n uint64) api.Node {
	return api.Node{Kind: api.NodeLit, At: at, Type: api.I64, Bits: n}
}

func TestEachStatement(t *testing.T) {
	wantNodes(t, "")
	wantNodes(t, "var a i32 = 5u8;", api.Node{Kind: api.NodeLit, At: 12, Type: api.U8, Bits: 5}, api.Node{Kind: api.NodeVar, Name: "a", Type: api.I32, Kids: []int{0}})
	wantNodes(t, "var a [ 7 ] f64;", api.Node{Kind: api.NodeArray, Name: "a", Type: api.F64, Size: 7})
	wantNodes(t, "a = b;", name(4, "b"), api.Node{Kind: api.NodeSet, Name: "a", Kids: []int{0}})
	wantNodes(t, "a[i] = b;", name(2, "i"), name(7, "b"), api.Node{Kind: api.NodePut, Name: "a", Kids: []int{0, 1}})
	wantNodes(t, "g();", api.Node{Kind: api.NodeCall, Name: "g"}, api.Node{Kind: api.NodeDo, Kids: []int{0}})
	wantNodes(t, "g(a, 1);", name(2, "a"), number(5, 1), api.Node{Kind: api.NodeCall, Name: "g", Kids: []int{0, 1}}, api.Node{Kind: api.NodeDo, Kids: []int{2}})
	wantNodes(t, "if a {}", name(3, "a"), api.Node{Kind: api.NodeBlock, At: 5}, api.Node{Kind: api.NodeIf, Kids: []int{0, 1}})
	wantNodes(t, "if a {} else {}", name(3, "a"), api.Node{Kind: api.NodeBlock, At: 5}, api.Node{Kind: api.NodeBlock, At: 13}, api.Node{Kind: api.NodeIf, Kids: []int{0, 1, 2}})
	wantNodes(t, "while a { break; }", name(6, "a"), api.Node{Kind: api.NodeBreak, At: 10}, api.Node{Kind: api.NodeBlock, At: 8, Kids: []int{1}}, api.Node{Kind: api.NodeWhile, Kids: []int{0, 2}})
	wantNodes(t, "break;", api.Node{Kind: api.NodeBreak})
	wantNodes(t, "continue;", api.Node{Kind: api.NodeNext})
	wantNodes(t, "return 1;", number(7, 1), api.Node{Kind: api.NodeReturn, Kids: []int{0}})
	wantNodes(t, "print 1;", number(6, 1), api.Node{Kind: api.NodePrint, Kids: []int{0}})
	wantNodes(t, "break; continue; break;", api.Node{Kind: api.NodeBreak}, api.Node{Kind: api.NodeNext, At: 7}, api.Node{Kind: api.NodeBreak, At: 17})
}

func TestEachExpression(t *testing.T) {
	printed := func(kid int) api.Node { return api.Node{Kind: api.NodePrint, Kids: []int{kid}} }
	wantNodes(t, "print true;", api.Node{Kind: api.NodeLit, At: 6, Type: api.Bool, Bits: 1}, printed(0))
	wantNodes(t, "print 0.5;", api.Node{Kind: api.NodeLit, At: 6, Type: api.F64, Bits: 0x3fe0000000000000}, printed(0))
	wantNodes(t, "print a;", name(6, "a"), printed(0))
	wantNodes(t, "print (((a)));", name(9, "a"), printed(0))
	wantNodes(t, "print a[i];", name(8, "i"), api.Node{Kind: api.NodeItem, At: 6, Name: "a", Kids: []int{0}}, printed(1))
	wantNodes(t, "print g();", api.Node{Kind: api.NodeCall, At: 6, Name: "g"}, printed(0))
	wantNodes(t, "print g(a, b, 3);", name(8, "a"), name(11, "b"), number(14, 3), api.Node{Kind: api.NodeCall, At: 6, Name: "g", Kids: []int{0, 1, 2}}, printed(3))
	for s, u := range types {
		wantNodes(t, "print "+s+"(a);", name(7+len(s), "a"), api.Node{Kind: api.NodeCast, At: 6, Type: u, Kids: []int{0}}, printed(1))
	}
	wantNodes(t, "print -a;", name(7, "a"), api.Node{Kind: api.NodeUnary, At: 6, Op: api.OpNeg, Kids: []int{0}}, printed(1))
	wantNodes(t, "print !a;", name(7, "a"), api.Node{Kind: api.NodeUnary, At: 6, Op: api.OpNot, Kids: []int{0}}, printed(1))
	wantNodes(t, "print -!a;", name(8, "a"), api.Node{Kind: api.NodeUnary, At: 7, Op: api.OpNot, Kids: []int{0}}, api.Node{Kind: api.NodeUnary, At: 6, Op: api.OpNeg, Kids: []int{1}}, printed(2))
	wantNodes(t, "print a || b;", name(6, "a"), name(11, "b"), api.Node{Kind: api.NodeEither, At: 8, Kids: []int{0, 1}}, printed(2))
	wantNodes(t, "print a && b;", name(6, "a"), name(11, "b"), api.Node{Kind: api.NodeBoth, At: 8, Kids: []int{0, 1}}, printed(2))
	for s, op := range ops {
		wantNodes(t, "print a "+s+" b;", name(6, "a"), name(9+len(s), "b"), api.Node{Kind: api.NodeBinary, At: 8, Op: op, Kids: []int{0, 1}}, printed(2))
		wantNodes(t, "print (a)"+s+"(b);", name(7, "a"), name(10+len(s), "b"), api.Node{Kind: api.NodeBinary, At: 9, Op: op, Kids: []int{0, 1}}, printed(2))
	}
}

// An if right behind else is a block with that statement alone, at its place.
func TestElseIf(t *testing.T) {
	wantNodes(t, "if a {} else if b {}",
		name(3, "a"), api.Node{Kind: api.NodeBlock, At: 5},
		name(16, "b"), api.Node{Kind: api.NodeBlock, At: 18}, api.Node{Kind: api.NodeIf, At: 13, Kids: []int{2, 3}}, api.Node{Kind: api.NodeBlock, At: 13, Kids: []int{4}},
		api.Node{Kind: api.NodeIf, Kids: []int{0, 1, 5}})
	wantNodes(t, "if a {} else if b {} else { break; }",
		name(3, "a"), api.Node{Kind: api.NodeBlock, At: 5},
		name(16, "b"), api.Node{Kind: api.NodeBlock, At: 18}, api.Node{Kind: api.NodeBreak, At: 28}, api.Node{Kind: api.NodeBlock, At: 26, Kids: []int{4}},
		api.Node{Kind: api.NodeIf, At: 13, Kids: []int{2, 3, 5}}, api.Node{Kind: api.NodeBlock, At: 13, Kids: []int{6}},
		api.Node{Kind: api.NodeIf, Kids: []int{0, 1, 7}})
	for s, full := range map[string]string{
		"if a {} else if b {}":                              "if a {} else { if b {} }",
		"if a {} else if b {} else if c {} else { break; }": "if a {} else { if b {} else { if c {} else { break; } } }",
		"if a { if b {} } else if c {} break;":              "if a { if b {} } else { if c {} } break;",
		"if a { if b {} else {} }":                          "if a {if b{}else{}}",
	} {
		if !same(taken(t, inBody(s)), taken(t, inBody(full))) {
			t.Errorf("%s is not %s", s, full)
		}
	}
	if same(taken(t, inBody("if a { if b {} } else {}")), taken(t, inBody("if a { if b {} else {} }"))) {
		t.Error("an else part went to the wrong if")
	}
}

// Functions stand in order; the nodes of each ahead of those of the next one.
func TestFunctions(t *testing.T) {
	src := "func f() i64 {} func g(a i64, bb bool,c u8) f64 { return 1; }\nfunc f ( x i32 ) bool { }"
	want := api.Tree{
		Nodes: []api.Node{
			{Kind: api.NodeBlock, At: 13},
			number(57, 1), {Kind: api.NodeReturn, At: 50, Kids: []int{1}}, {Kind: api.NodeBlock, At: 48, Kids: []int{2}},
			{Kind: api.NodeBlock, At: 84},
		},
		Funcs: []api.Func{
			{Name: "f", At: 5, Result: api.I64, Body: 0},
			{Name: "g", At: 21, Params: []api.Param{{Name: "a", At: 23, Type: api.I64}, {Name: "bb", At: 30, Type: api.Bool}, {Name: "c", At: 38, Type: api.U8}}, Result: api.F64, Body: 3},
			{Name: "f", At: 67, Params: []api.Param{{Name: "x", At: 71, Type: api.I32}}, Result: api.Bool, Body: 4},
		},
	}
	wantTree(t, src, want)
	if !syntax.Right(want) {
		t.Error("it is not right")
	}
}

// Neither functions nor parameters, statements, arguments, operands are too many here.
func TestNoOtherLimits(t *testing.T) {
	for _, src := range []string{
		strings.Repeat("func f() i64 {}", 1000),
		"func f(" + strings.Repeat("a i64, ", 1000) + "a u8) i64 {}",
		inBody(strings.Repeat("a = 1;", 5000)),
		inBody("f(" + strings.Repeat("1,", 5000) + "1);"),
		inBody("print " + strings.Repeat("a+b*c||", 5000) + "a;"),
		inBody(strings.Repeat("if a {} ", 5000)),
		inBody(strings.Repeat("var a[256] i64;", 3000)),
		strings.Repeat("func f() i64 { print ((((((((((1)))))))))); }", 1000),
	} {
		if tree := taken(t, src); !syntax.Right(tree) {
			t.Errorf("the tree of %s is not right", short(src))
		}
	}
	longest := strings.Repeat("n", api.MaxName)
	wantNodes(t, longest+" = "+longest+";", name(35, longest), api.Node{Kind: api.NodeSet, Name: longest, Kids: []int{0}})
}

// Rows of one rank go from left to right; a tighter row goes first, on either side.
func TestRowsOfOperators(t *testing.T) {
	alike := func(s, full string) {
		t.Helper()
		if !same(taken(t, inBody("return "+s+";")), taken(t, inBody("return "+full+";"))) {
			t.Errorf("%s is not %s", s, full)
		}
	}
	apart := func(s, full string) {
		t.Helper()
		if same(taken(t, inBody("return "+s+";")), taken(t, inBody("return "+full+";"))) {
			t.Errorf("%s is %s", s, full)
		}
	}
	for i, row := range rows {
		for _, x := range row {
			alike("-a"+x+"!b", "(-a)"+x+"(!b)")
			apart("-a"+x+"b", "-(a"+x+"b)")
			for j, other := range rows {
				for _, y := range other {
					left, right := "(a"+x+"b)"+y+"c", "a"+x+"(b"+y+"c)"
					if j <= i {
						alike("a"+x+"b"+y+"c", left)
						apart("a"+x+"b"+y+"c", right)
					} else {
						alike("a"+x+"b"+y+"c", right)
						apart("a"+x+"b"+y+"c", left)
					}
				}
			}
		}
	}
	alike("a-b-c-d-e", "(((a-b)-c)-d)-e")
	alike("a||b||c&&d&&e", "(a||b)||((c&&d)&&e)")
	alike("a||b&&c==d+e*-f", "a||(b&&(c==(d+(e*(-f)))))")
	alike("-a*b+c==d&&e||f", "((((((-a)*b)+c)==d)&&e)||f)")
	alike("a<b==c<d", "((a<b)==c)<d")
	alike("a<<b>>c&d", "((a<<b)>>c)&d")
	alike("--a - -b", "(-(-a))-(-b)")
	alike("-f(a)+-b[c]*-i64(d)", "(-(f(a)))+((-(b[c]))*(-(i64(d))))")
}

// What a call answers is its own: each list of it may be written to and grown, and nothing else changes.
func TestListsShareNothing(t *testing.T) {
	const src = "func f(a i64, b u8, c u8) i64 { g(a, b, a[1]); if a {} else if b { break; continue; break; } } func g(x i64) u8 { print -a + b; }"
	tree, again := taken(t, src), taken(t, src)
	want := copied(tree, true)
	for i, n := range tree.Nodes {
		whole := n.Kids[:cap(n.Kids)]
		for j := range whole {
			whole[j] = -7
		}
		for j := range n.Kids {
			want.Nodes[i].Kids[j] = -7
		}
		if !equal(tree, want) {
			t.Fatalf("the kids of node %d are not its own", i)
		}
	}
	for i, f := range tree.Funcs {
		clear(f.Params[:cap(f.Params)])
		clear(want.Funcs[i].Params)
		if !equal(tree, want) {
			t.Fatalf("the parameters of function %d are not its own", i)
		}
	}
	clear(tree.Nodes[:cap(tree.Nodes)])
	clear(tree.Funcs[:cap(tree.Funcs)])
	wantTree(t, src, again)
}

func TestRightChangesNothing(t *testing.T) {
	tree := taken(t, "func f(a i64) i64 { g(a, 1); if a {} else if b { break; } return a[1] * -b; }")
	for i := range tree.Nodes {
		tree.Nodes[i].Kids = append(slices.Grow(slices.Clone(tree.Nodes[i].Kids), 3), -5)[:len(tree.Nodes[i].Kids)]
	}
	before := copied(tree, true)
	if !syntax.Right(tree) || !syntax.Right(tree) || !equal(tree, before) {
		t.Error("it changed")
	}
	for _, n := range tree.Nodes {
		if n.Kids[:len(n.Kids)+1][len(n.Kids)] != -5 {
			t.Error("spare room changed")
		}
	}
}
