package syntax

import (
	"math"

	"smithy/api"
	"smithy/scalar"
	"smithy/token"
)

// kidSort is what a node stands as, where it is a kid.
type kidSort uint8

const (
	noKid kidSort = iota
	exprKid
	callKid
	stmtKid
	blockKid
)

const anyNumber = math.MaxInt

// shape is what a node of a kind has: a name, a type, and kids, of which the first one may be of another sort than the rest.
type shape struct {
	name, typed bool
	first, rest kidSort
	least, most int
}

var shapes = [...]shape{
	api.NodeLit:    {typed: true},
	api.NodeName:   {name: true},
	api.NodeItem:   {name: true, first: exprKid, least: 1, most: 1},
	api.NodeCall:   {name: true, first: exprKid, rest: exprKid, most: anyNumber},
	api.NodeCast:   {typed: true, first: exprKid, least: 1, most: 1},
	api.NodeUnary:  {first: exprKid, least: 1, most: 1},
	api.NodeBinary: {first: exprKid, rest: exprKid, least: 2, most: 2},
	api.NodeBoth:   {first: exprKid, rest: exprKid, least: 2, most: 2},
	api.NodeEither: {first: exprKid, rest: exprKid, least: 2, most: 2},
	api.NodeVar:    {name: true, typed: true, first: exprKid, least: 1, most: 1},
	api.NodeArray:  {name: true, typed: true},
	api.NodeSet:    {name: true, first: exprKid, least: 1, most: 1},
	api.NodePut:    {name: true, first: exprKid, rest: exprKid, least: 2, most: 2},
	api.NodeIf:     {first: exprKid, rest: blockKid, least: 2, most: 3},
	api.NodeWhile:  {first: exprKid, rest: blockKid, least: 2, most: 2},
	api.NodeBreak:  {},
	api.NodeNext:   {},
	api.NodeReturn: {first: exprKid, least: 1, most: 1},
	api.NodePrint:  {first: exprKid, least: 1, most: 1},
	api.NodeDo:     {first: callKid, least: 1, most: 1},
	api.NodeBlock:  {first: stmtKid, rest: stmtKid, most: anyNumber},
}

// rightKind tells whether there are nodes of a kind.
func rightKind(kind api.NodeKind) bool {
	return api.NodeLit <= kind && kind <= api.NodeBlock
}

func rightType(t api.Type) bool {
	return scalar.Right(t, 0)
}

func rightName(name string) bool {
	if len(name) > api.MaxName {
		return false
	}
	tokens, _ := token.Scan(name)
	return len(tokens) == 2 && tokens[0] == api.Token{Kind: api.TokName, End: len(name)}
}

// rightHead tells whether a function is right, but for its body.
func rightHead(f api.Func) bool {
	for _, p := range f.Params {
		if !rightName(p.Name) || !rightType(p.Type) {
			return false
		}
	}
	return rightName(f.Name) && rightType(f.Result)
}

// rightFields tells whether a node has what its kind has, and nothing else, but for its kids.
func rightFields(n api.Node) bool {
	if !rightKind(n.Kind) {
		return false
	}
	has := shapes[n.Kind]
	if has.name && !rightName(n.Name) || !has.name && n.Name != "" {
		return false
	}
	if has.typed && !rightType(n.Type) || !has.typed && n.Type != api.NoType {
		return false
	}
	return rightOp(n) && rightBits(n) && rightSize(n)
}

func rightOp(n api.Node) bool {
	switch n.Kind {
	case api.NodeUnary:
		return n.Op == api.OpNeg || n.Op == api.OpNot
	case api.NodeBinary:
		return api.OpAdd <= n.Op && n.Op <= api.OpGe
	}
	return n.Op == api.NoOp
}

func rightBits(n api.Node) bool {
	if n.Kind == api.NodeLit {
		return literalWord(n.Type, n.Bits)
	}
	return n.Bits == 0
}

func rightSize(n api.Node) bool {
	if n.Kind == api.NodeArray {
		return 1 <= n.Size && n.Size <= api.MaxArray
	}
	return n.Size == 0
}

// rightKids tells whether a node, whose kids are nodes, has as many as its kind has, of the right kinds.
func rightKids(nodes []api.Node, n api.Node) bool {
	has := shapes[n.Kind]
	if len(n.Kids) < has.least || len(n.Kids) > has.most {
		return false
	}
	wanted := has.first
	for _, kid := range n.Kids {
		if !standsAs(nodes[kid].Kind, wanted) {
			return false
		}
		wanted = has.rest
	}
	return true
}

func standsAs(kind api.NodeKind, wanted kidSort) bool {
	switch wanted {
	case exprKid:
		return api.NodeLit <= kind && kind <= api.NodeEither
	case callKid:
		return kind == api.NodeCall
	case stmtKid:
		return api.NodeVar <= kind && kind <= api.NodeDo
	case blockKid:
		return kind == api.NodeBlock
	}
	return false
}

// opensAtMost is how much is open at once, at the most, from where a node stands to where it ends; opens tells it of its kids.
func opensAtMost(nodes []api.Node, opens []int, n api.Node) int {
	most := 0
	for i, kid := range n.Kids {
		within := opens[kid]
		if parenthesised(n, nodes[kid], i) {
			within++
		}
		most = max(most, within)
	}
	switch n.Kind {
	case api.NodeItem, api.NodeCall, api.NodeCast, api.NodeUnary, api.NodeBlock:
		return most + 1
	}
	return most
}

// parenthesised tells whether the grammar needs parentheses about an operand: the i-th kid of a node.
func parenthesised(n, kid api.Node, i int) bool {
	own, operand := rankOf(n), rankOf(kid)
	if own == otherRank {
		return false
	}
	return operand < own || operand == own && i > 0
}

func rankOf(n api.Node) int {
	for _, o := range operators {
		if o.kind == n.Kind && o.op == n.Op {
			return o.rank
		}
	}
	if n.Kind == api.NodeUnary {
		return unaryRank
	}
	return otherRank
}
