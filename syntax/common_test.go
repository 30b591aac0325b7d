package syntax_test

import (
	"slices"
	"strconv"
	"strings"
	"testing"

	"smithy/api"
	"smithy/syntax"
)

const head = "func f() i64 { "

// inBody is a source with some statements in a function's body, which begin at len(head).
func inBody(stmts string) string { return head + stmts + " }" }

// taken is the tree of a source that must have no fault.
func taken(t *testing.T, src string) api.Tree {
	t.Helper()
	tree, f := syntax.Parse(src)
	if f != (api.Fault{}) {
		t.Fatalf("Parse(%s): %v; want a tree", short(src), f)
	}
	return tree
}

func wantFault(t *testing.T, src string, err api.Errno, at int) {
	t.Helper()
	tree, f := syntax.Parse(src)
	if f != (api.Fault{Err: err, At: at}) || len(tree.Nodes)+len(tree.Funcs) > 0 {
		t.Errorf("Parse(%s): %v, %d nodes, %d functions; want the fault %d at %d", short(src), f, len(tree.Nodes), len(tree.Funcs), err, at)
	}
}

// wantTree asks for just this tree, with all its places.
func wantTree(t *testing.T, src string, want api.Tree) {
	t.Helper()
	if tree := taken(t, src); !equal(tree, want) {
		t.Errorf("Parse(%s) = %v; want %v", short(src), tree, want)
	}
}

func equal(a, b api.Tree) bool {
	return slices.EqualFunc(a.Nodes, b.Nodes, equalNodes) && slices.EqualFunc(a.Funcs, b.Funcs, equalFuncs)
}

func equalNodes(a, b api.Node) bool {
	return a.Kind == b.Kind && a.At == b.At && a.Name == b.Name && a.Type == b.Type && a.Op == b.Op && a.Bits == b.Bits && a.Size == b.Size && slices.Equal(a.Kids, b.Kids)
}

func equalFuncs(a, b api.Func) bool {
	return a.Name == b.Name && a.At == b.At && slices.Equal(a.Params, b.Params) && a.Result == b.Result && a.Body == b.Body
}

// copied is a tree of its own, with all places 0, if they are to be left out.
func copied(t api.Tree, places bool) api.Tree {
	at := func(n int) int {
		if places {
			return n
		}
		return 0
	}
	var c api.Tree
	for _, n := range t.Nodes {
		n.At, n.Kids = at(n.At), slices.Clone(n.Kids)
		c.Nodes = append(c.Nodes, n)
	}
	for _, f := range t.Funcs {
		f.At, f.Params = at(f.At), slices.Clone(f.Params)
		for i := range f.Params {
			f.Params[i].At = at(f.Params[i].At)
		}
		c.Funcs = append(c.Funcs, f)
	}
	return c
}

// same tells whether two trees are equal but for all places.
func same(a, b api.Tree) bool { return equal(copied(a, false), copied(b, false)) }

// short is a source as a remark of a test shows it.
func short(src string) string {
	if len(src) > 300 {
		src = src[:150] + " .. " + src[len(src)-100:]
	}
	return strconv.Quote(src)
}

// odds are numbers without a pattern, the same ones each time.
type odds uint64

func (o *odds) below(n int) int {
	w := uint64(*o)
	w ^= w << 13
	w ^= w >> 7
	w ^= w << 17
	*o = odds(w)
	return int(w >> 20 % uint64(n))
}

// often tells true about so many times in a hundred.
func (o *odds) often(percent int) bool { return o.below(100) < percent }

func pick[T any](o *odds, l ...T) T { return l[o.below(len(l))] }

const firstOdd odds = 0x9e3779b97f4a7c15

// Signs of operators of two, by rows of the grammar, from the loosest on; and what each is.
var (
	rows = [][]string{{"||"}, {"&&"}, {"==", "!=", "<", "<=", ">", ">="}, {"+", "-", "|", "^"}, {"*", "/", "%", "&", "<<", ">>"}}
	ops  = map[string]api.Op{
		"+": api.OpAdd, "-": api.OpSub, "*": api.OpMul, "/": api.OpDiv, "%": api.OpRem, "&": api.OpAnd, "|": api.OpOr, "^": api.OpXor, "<<": api.OpShl, ">>": api.OpShr,
		"==": api.OpEq, "!=": api.OpNe, "<": api.OpLt, "<=": api.OpLe, ">": api.OpGt, ">=": api.OpGe,
	}
	types = map[string]api.Type{"bool": api.Bool, "u8": api.U8, "i32": api.I32, "i64": api.I64, "f64": api.F64}
	words = []string{"func", "var", "if", "else", "while", "break", "continue", "return", "print", "true", "false", "i64", "i32", "u8", "bool", "f64"}
)

// spelled is a text of a tree with as few parentheses as the grammar needs. Of a tree that is not right it is some text, which is then no source of it.
func spelled(t api.Tree) string {
	var b strings.Builder
	for _, f := range t.Funcs {
		b.WriteString("func " + f.Name + "(")
		for i, p := range f.Params {
			if i > 0 {
				b.WriteString(", ")
			}
			b.WriteString(p.Name + " " + typeText(p.Type))
		}
		b.WriteString(") " + typeText(f.Result) + " " + spelledNode(t, f.Body, len(t.Nodes)) + "\n")
	}
	return b.String()
}

func typeText(t api.Type) string {
	for s, u := range types {
		if t == u {
			return s
		}
	}
	return "?"
}

// spelledNode is the text of a node, if that stands ahead of another place.
func spelledNode(t api.Tree, i, ahead int) string {
	if i < 0 || i >= ahead {
		return "?"
	}
	n := t.Nodes[i]
	var kids []string
	for k, kid := range n.Kids {
		s := spelledNode(t, kid, i)
		if own := rowOf(n); s != "?" && own < 7 && (rowOf(t.Nodes[kid]) < own || rowOf(t.Nodes[kid]) == own && k == 1) {
			s = "(" + s + ")"
		}
		kids = append(kids, s)
	}
	all := strings.Join(kids, ", ")
	for len(kids) < 2 {
		kids = append(kids, "?")
	}
	switch n.Kind {
	case api.NodeLit:
		return literalText(n)
	case api.NodeName:
		return n.Name
	case api.NodeItem:
		return n.Name + "[" + all + "]"
	case api.NodeCall:
		return n.Name + "(" + all + ")"
	case api.NodeCast:
		return typeText(n.Type) + "(" + all + ")"
	case api.NodeUnary:
		return map[api.Op]string{api.OpNeg: "-", api.OpNot: "!"}[n.Op] + all
	case api.NodeBinary, api.NodeBoth, api.NodeEither:
		return kids[0] + " " + signOf(n) + " " + kids[1]
	case api.NodeVar:
		return "var " + n.Name + " " + typeText(n.Type) + " = " + all + ";"
	case api.NodeArray:
		return "var " + n.Name + "[" + strconv.Itoa(n.Size) + "] " + typeText(n.Type) + ";"
	case api.NodeSet:
		return n.Name + " = " + all + ";"
	case api.NodePut:
		return n.Name + "[" + kids[0] + "] = " + kids[1] + ";"
	case api.NodeIf:
		s := "if " + kids[0] + " " + kids[1]
		if len(n.Kids) > 2 {
			s += " else " + strings.Join(kids[2:], " ")
		}
		return s
	case api.NodeWhile:
		return "while " + kids[0] + " " + kids[1]
	case api.NodeBreak:
		return "break;"
	case api.NodeNext:
		return "continue;"
	case api.NodeReturn:
		return "return " + all + ";"
	case api.NodePrint:
		return "print " + all + ";"
	case api.NodeDo:
		return all + ";"
	case api.NodeBlock:
		return "{ " + strings.Join(kids[:len(n.Kids)], " ") + " }"
	}
	return "?"
}

func signOf(n api.Node) string {
	switch n.Kind {
	case api.NodeEither:
		return "||"
	case api.NodeBoth:
		return "&&"
	}
	for s, op := range ops {
		if op == n.Op {
			return s
		}
	}
	return "?"
}

// rowOf is a node's row of the grammar, from 1 on: 6 is a unary's, 7 that of all others.
func rowOf(n api.Node) int {
	switch n.Kind {
	case api.NodeUnary:
		return 6
	case api.NodeBinary, api.NodeBoth, api.NodeEither:
		for i, row := range rows {
			if slices.Contains(row, signOf(n)) {
				return i + 1
			}
		}
	}
	return 7
}
