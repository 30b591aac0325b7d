package spell

import (
	"math"
	"slices"
	"strconv"
	"strings"

	"smithy/api"
)

// Rows of the grammar, from the loosest on.
const (
	eitherRow = iota + 1
	bothRow
	orderRow
	sumRow
	productRow
	unaryRow
	otherRow
)

type operator struct {
	sign string
	row  int
}

var operators = [...]operator{
	api.OpAdd: {"+", sumRow},
	api.OpSub: {"-", sumRow},
	api.OpMul: {"*", productRow},
	api.OpDiv: {"/", productRow},
	api.OpRem: {"%", productRow},
	api.OpAnd: {"&", productRow},
	api.OpOr:  {"|", sumRow},
	api.OpXor: {"^", sumRow},
	api.OpShl: {"<<", productRow},
	api.OpShr: {">>", productRow},
	api.OpEq:  {"==", orderRow},
	api.OpNe:  {"!=", orderRow},
	api.OpLt:  {"<", orderRow},
	api.OpLe:  {"<=", orderRow},
	api.OpGt:  {">", orderRow},
	api.OpGe:  {">=", orderRow},
	api.OpNeg: {"-", unaryRow},
	api.OpNot: {"!", unaryRow},
}

// joints are the operators that are kinds of nodes of their own.
var joints = [...]operator{
	api.NodeBoth:   {"&&", bothRow},
	api.NodeEither: {"||", eitherRow},
}

// operator is that of an expression; what has none is of the last row, without a sign.
func (w *writer) operator(at int) operator {
	n := w.nodes[at]
	switch n.Kind {
	case api.NodeUnary, api.NodeBinary:
		return operators[n.Op]
	case api.NodeBoth, api.NodeEither:
		return joints[n.Kind]
	}
	return operator{"", otherRow}
}

func (w *writer) expr(at int) {
	n := w.nodes[at]
	switch n.Kind {
	case api.NodeLit:
		w.put(literal(n.Type, n.Bits))
	case api.NodeName:
		w.put(n.Name)
	case api.NodeItem:
		w.item(n)
	case api.NodeCall:
		w.arguments(n.Name, n.Kids)
	case api.NodeCast:
		w.arguments(typeWords[n.Type], n.Kids)
	case api.NodeUnary:
		w.put(operators[n.Op].sign)
		w.operand(n.Kids[0], unaryRow)
	default:
		w.chain(at)
	}
}

// item is a name and the index behind it.
func (w *writer) item(n api.Node) {
	w.put(n.Name, "[")
	w.expr(n.Kids[0])
	w.put("]")
}

func (w *writer) arguments(name string, kids []int) {
	w.put(name, "(")
	for i, kid := range kids {
		if i > 0 {
			w.put(", ")
		}
		w.expr(kid)
	}
	w.put(")")
}

// chain is operators of two that stand at one another's left without parentheses. It may be as long as the tree: so it is gone down by a loop, as calls so deep would use up the stack.
func (w *writer) chain(at int) {
	links := []int{at}
	for w.linked(at) {
		at = w.nodes[at].Kids[0]
		links = append(links, at)
	}
	w.operand(w.nodes[at].Kids[0], w.operator(at).row)
	for _, link := range slices.Backward(links) {
		o := w.operator(link)
		w.put(" ", o.sign, " ")
		// Operators of one row go from left to right: the right operand is of a tighter one.
		w.operand(w.nodes[link].Kids[1], o.row+1)
	}
}

// linked tells whether the left operand of an operator of two is another one, without parentheses.
func (w *writer) linked(at int) bool {
	left := w.operator(w.nodes[at].Kids[0]).row
	return w.operator(at).row <= left && left <= productRow
}

// operand puts parentheses about what is looser than may stand there.
func (w *writer) operand(at, loosest int) {
	if w.operator(at).row >= loosest {
		w.expr(at)
		return
	}
	w.put("(")
	w.expr(at)
	w.put(")")
}

func literal(t api.Type, bits uint64) string {
	switch t {
	case api.Bool:
		return strconv.FormatBool(bits == 1)
	case api.F64:
		return float(math.Float64frombits(bits))
	}
	digits := strconv.FormatUint(bits, 10)
	if t == api.I64 {
		return digits
	}
	return digits + typeWords[t]
}

// float is the shortest text that is read as f: strconv leaves the point away where a digit stands alone, and a literal needs one.
func float(f float64) string {
	text := strconv.FormatFloat(f, 'e', -1, 64)
	if strings.Contains(text, ".") {
		return text
	}
	digit, exponent, _ := strings.Cut(text, "e")
	return digit + ".0e" + exponent
}
