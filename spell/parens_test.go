package spell_test

import (
	"strings"
	"testing"

	"smithy/api"
	"smithy/spell"
	"smithy/syntax"
)

// inner is an expression that may be an operand, its row, and the row of nodes of which it is made, the last one itself.
type inner struct {
	text  string
	row   int
	nodes []api.Node
}

func name(s string) api.Node { return api.Node{Kind: api.NodeName, Name: s} }

func twoNode(sign string, kids ...int) api.Node {
	n := api.Node{Kind: api.NodeBinary, Op: ops[sign], Kids: kids}
	if sign == "||" {
		n.Kind = api.NodeEither
	} else if sign == "&&" {
		n.Kind = api.NodeBoth
	}
	return n
}

// inners are expressions of each operator and each other kind.
func inners() []inner {
	l := []inner{
		{"-p", 6, []api.Node{name("p"), {Kind: api.NodeUnary, Op: api.OpNeg, Kids: []int{0}}}},
		{"!p", 6, []api.Node{name("p"), {Kind: api.NodeUnary, Op: api.OpNot, Kids: []int{0}}}},
		{"p", 7, []api.Node{name("p")}},
		{"p[q]", 7, []api.Node{name("q"), {Kind: api.NodeItem, Name: "p", Kids: []int{0}}}},
		{"p()", 7, []api.Node{{Kind: api.NodeCall, Name: "p"}}},
		{"p(q)", 7, []api.Node{name("q"), {Kind: api.NodeCall, Name: "p", Kids: []int{0}}}},
		{"u8(q)", 7, []api.Node{name("q"), {Kind: api.NodeCast, Type: api.U8, Kids: []int{0}}}},
		{"7", 7, []api.Node{{Kind: api.NodeLit, Type: api.I64, Bits: 7}}},
		{"true", 7, []api.Node{{Kind: api.NodeLit, Type: api.Bool, Bits: 1}}},
	}
	for i, row := range rows {
		for _, sign := range row {
			l = append(l, inner{"p " + sign + " q", i + 1, []api.Node{name("p"), name("q"), twoNode(sign, 0, 1)}})
		}
	}
	return l
}

func about(text string, need bool) string {
	if need {
		return "(" + text + ")"
	}
	return text
}

// shifted are nodes with all kids' places so much greater.
func shifted(nodes []api.Node, by int) []api.Node {
	l := copied(api.Tree{Nodes: nodes}).Nodes
	for _, n := range l {
		for i := range n.Kids {
			n.Kids[i] += by
		}
	}
	return l
}

// All operators with all expressions on both sides.
func TestParenthesesOnBothSides(t *testing.T) {
	for i, row := range rows {
		own := i + 1
		for _, sign := range row {
			for _, left := range inners() {
				for _, right := range inners() {
					nodes := append(copied(api.Tree{Nodes: left.nodes}).Nodes, shifted(right.nodes, len(left.nodes))...)
					nodes = append(nodes, twoNode(sign, len(left.nodes)-1, len(nodes)-1))
					wantPrint(t, nested(nodes...), asPrinted(about(left.text, left.row < own)+" "+sign+" "+about(right.text, right.row <= own)))
				}
			}
		}
	}
}

func TestParenthesesBehindUnarySigns(t *testing.T) {
	for sign, op := range map[string]api.Op{"-": api.OpNeg, "!": api.OpNot} {
		for _, x := range inners() {
			last := len(x.nodes) - 1
			nodes := append(copied(api.Tree{Nodes: x.nodes}).Nodes, api.Node{Kind: api.NodeUnary, Op: op, Kids: []int{last}})
			wantPrint(t, nested(nodes...), asPrinted(sign+about(x.text, x.row < 6)))
		}
	}
}

// Where an expression stands by itself there are none.
func TestNoParenthesesElsewhere(t *testing.T) {
	for _, x := range inners() {
		last := len(x.nodes) - 1
		with := func(n api.Node) []api.Node { return append(copied(api.Tree{Nodes: x.nodes}).Nodes, n) }
		wantPrint(t, nested(x.nodes...), asPrinted(x.text))
		wantPrint(t, nested(with(api.Node{Kind: api.NodeItem, Name: "a", Kids: []int{last}})...), asPrinted("a["+x.text+"]"))
		wantPrint(t, nested(with(api.Node{Kind: api.NodeCall, Name: "a", Kids: []int{last}})...), asPrinted("a("+x.text+")"))
		wantPrint(t, nested(with(api.Node{Kind: api.NodeCast, Type: api.F64, Kids: []int{last}})...), asPrinted("f64("+x.text+")"))
		wantBody(t, "var a i64="+x.text+";a="+x.text+";a["+x.text+"]="+x.text+";while "+x.text+"{}if "+x.text+"{}return "+x.text+";",
			"var a i64 = "+x.text+";", "a = "+x.text+";", "a["+x.text+"] = "+x.text+";", "while "+x.text+" {", "}", "if "+x.text+" {", "}", "return "+x.text+";")
	}
}

// No pair can be left out: what is read then is another tree, or none.
func TestEveryPairIsNeeded(t *testing.T) {
	m := maker{odds: firstOdd + 1}
	pairs := 0
	for range 3000 {
		m.nodes, m.text = nil, nil
		m.expr(1, 5)
		tree := nested(m.nodes...)
		text, err := spell.Print(tree)
		if err != api.OK || text != asPrinted(string(m.text)) {
			t.Fatalf("%s, %v; want %s", short(text), err, m.text)
		}
		from := strings.Index(text, "print ")
		for i := from; i < len(text); i++ {
			if text[i] != '(' || !strings.ContainsRune(" (-![", rune(text[i-1])) {
				continue
			}
			pairs++
			less := text[:i] + text[i+1:]
			end := closing(less, i)
			if back, f := syntax.Parse(less[:end] + less[end+1:]); f == (api.Fault{}) && alike(back, tree) {
				t.Fatalf("%s: the pair at %d is not needed", short(text), i)
			}
		}
	}
	if pairs < 3000 {
		t.Errorf("only %d pairs", pairs)
	}
}

// closing is the place of the parenthesis that ends what was opened ahead of i.
func closing(text string, i int) int {
	open := 1
	for ; ; i++ {
		switch text[i] {
		case '(':
			open++
		case ')':
			open--
			if open == 0 {
				return i
			}
		}
	}
}
