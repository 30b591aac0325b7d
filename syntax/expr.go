package syntax

import "smithy/api"

// operator is one of two operands: of a lower rank it is looser.
type operator struct {
	sign string
	rank int
	kind api.NodeKind
	op   api.Op
}

// Ranks of expressions: those of operators of two are from loosest to tightest.
const (
	loosest   = 1
	tightest  = 5
	unaryRank = 6
	otherRank = 7
)

var operators = [...]operator{
	{"||", 1, api.NodeEither, api.NoOp},
	{"&&", 2, api.NodeBoth, api.NoOp},
	{"==", 3, api.NodeBinary, api.OpEq},
	{"!=", 3, api.NodeBinary, api.OpNe},
	{"<", 3, api.NodeBinary, api.OpLt},
	{"<=", 3, api.NodeBinary, api.OpLe},
	{">", 3, api.NodeBinary, api.OpGt},
	{">=", 3, api.NodeBinary, api.OpGe},
	{"+", 4, api.NodeBinary, api.OpAdd},
	{"-", 4, api.NodeBinary, api.OpSub},
	{"|", 4, api.NodeBinary, api.OpOr},
	{"^", 4, api.NodeBinary, api.OpXor},
	{"*", 5, api.NodeBinary, api.OpMul},
	{"/", 5, api.NodeBinary, api.OpDiv},
	{"%", 5, api.NodeBinary, api.OpRem},
	{"&", 5, api.NodeBinary, api.OpAnd},
	{"<<", 5, api.NodeBinary, api.OpShl},
	{">>", 5, api.NodeBinary, api.OpShr},
}

func (p *parser) expr() int {
	return p.row(loosest)
}

// row is operands with operators of one rank between them, which go from left to right.
func (p *parser) row(rank int) int {
	if rank > tightest {
		return p.unary()
	}
	left := p.row(rank + 1)
again:
	for _, o := range operators {
		if o.rank == rank && p.has(o.sign) {
			at := p.pass()
			right := p.row(rank + 1)
			left = p.put(api.Node{Kind: o.kind, At: at, Op: o.op, Kids: []int{left, right}})
			goto again
		}
	}
	return left
}

func (p *parser) unary() int {
	n := api.Node{Kind: api.NodeUnary}
	sign := p.text()
	switch sign {
	case "-":
		n.Op = api.OpNeg
	case "!":
		n.Op = api.OpNot
	default:
		return p.primary()
	}
	n.At = p.opened(sign, func() {
		n.Kids = []int{p.unary()}
	})
	return p.put(n)
}

func (p *parser) primary() int {
	switch p.next().Kind {
	case api.TokInt, api.TokFloat:
		return p.literal()
	case api.TokName:
		return p.named()
	}
	switch p.text() {
	case "true", "false":
		return p.literal()
	case "(":
		return p.between("(", ")")
	}
	n := api.Node{Kind: api.NodeCast, At: p.next().At}
	n.Type = p.typeName()
	n.Kids = []int{p.between("(", ")")}
	return p.put(n)
}

// between is an expression in a pair of signs.
func (p *parser) between(first, last string) int {
	var inner int
	p.opened(first, func() {
		inner = p.expr()
		p.take(last)
	})
	return inner
}

// named is a name, an element or a call.
func (p *parser) named() int {
	n := api.Node{Kind: api.NodeName}
	n.Name, n.At = p.name()
	switch p.text() {
	case "(":
		return p.call(n.At, n.Name)
	case "[":
		n.Kind = api.NodeItem
		n.Kids = []int{p.between("[", "]")}
	}
	return p.put(n)
}

// call goes on behind a call's name.
func (p *parser) call(at int, name string) int {
	n := api.Node{Kind: api.NodeCall, At: at, Name: name}
	p.opened("(", func() {
		p.list(func() {
			n.Kids = append(n.Kids, p.expr())
		})
	})
	return p.put(n)
}
