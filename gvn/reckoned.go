package gvn

import (
	"smithy/api"
)

// reckoned is what an instruction reckons: two of them are reckoned alike just if it is the same of both. How many arguments it has is said by its kind and operation.
type reckoned struct {
	kind api.InsKind
	op   api.Op
	to   api.Type
	bits uint64
	args [2]int
}

// reckons is what an instruction of a right graph reckons, if it is of a kind that tells the same each time. What it asks is named by who holds it.
func reckons(g api.Graph, x api.Ins, holder []int) (reckoned, bool) {
	switch x.Kind {
	case api.InsConst, api.InsOp, api.InsCast:
	default:
		return reckoned{}, false
	}
	r := reckoned{kind: x.Kind, op: x.Op, to: g.Vars[x.Dst], bits: x.Bits}
	for i, v := range x.Args {
		r.args[i] = holder[v]
	}
	if turns(r.op) && r.args[0] > r.args[1] {
		r.args[0], r.args[1] = r.args[1], r.args[0]
	}
	return r, true
}

// turns tells whether an operation tells the same, whichever of its two arguments stands first.
func turns(op api.Op) bool {
	switch op {
	case api.OpAdd, api.OpMul, api.OpAnd, api.OpOr, api.OpXor, api.OpEq, api.OpNe:
		return true
	}
	return false
}
