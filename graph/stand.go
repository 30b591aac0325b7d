package graph

import (
	"math"

	"smithy/api"
	"smithy/scalar"
)

const anyNumber = math.MaxInt

// parts is what an instruction of a kind has; all else of it must be 0.
type parts struct {
	op, dst, bits, ref bool
	least, most        int // Args
}

var partsOf = [...]parts{
	api.InsPhi:   {dst: true, most: anyNumber},
	api.InsConst: {dst: true, bits: true},
	api.InsCopy:  {dst: true, least: 1, most: 1},
	api.InsOp:    {op: true, dst: true, least: 1, most: 2},
	api.InsCast:  {dst: true, least: 1, most: 1},
	api.InsLoad:  {dst: true, ref: true, least: 1, most: 1},
	api.InsStore: {ref: true, least: 2, most: 2},
	api.InsClear: {ref: true},
	api.InsCall:  {dst: true, ref: true, most: anyNumber},
	api.InsPrint: {least: 1, most: 1},
}

// Type is the type of the variable that an instruction sets (NoType, if it sets none); false, if it may not stand in the graph g of the program p.
func Type(p []api.Graph, g api.Graph, x api.Ins) (api.Type, bool) {
	if !hasParts(g, x) || !fits(p, g, x) {
		return api.NoType, false
	}
	if !partsOf[x.Kind].dst {
		return api.NoType, true
	}
	return g.Vars[x.Dst], true
}

// hasParts tells whether an instruction has what its kind has, and nothing else, and whether Dst and Args are variables.
func hasParts(g api.Graph, x api.Ins) bool {
	if x.Kind < api.InsPhi || x.Kind > api.InsPrint {
		return false
	}
	has := partsOf[x.Kind]
	if !has.op && x.Op != api.NoOp || !has.bits && x.Bits != 0 || !has.ref && x.Ref != 0 {
		return false
	}
	if has.dst && !isPlace(x.Dst, len(g.Vars)) || !has.dst && x.Dst != 0 {
		return false
	}
	for _, v := range x.Args {
		if !isPlace(v, len(g.Vars)) {
			return false
		}
	}
	return has.least <= len(x.Args) && len(x.Args) <= has.most
}

// fits tells whether the types of an instruction, which has the parts of its kind, are as they must be.
func fits(p []api.Graph, g api.Graph, x api.Ins) bool {
	switch x.Kind {
	case api.InsPhi, api.InsCopy:
		return fitsAlike(g, x)
	case api.InsConst:
		return scalar.Right(g.Vars[x.Dst], x.Bits)
	case api.InsOp:
		return fitsOp(g, x)
	case api.InsCast:
		return scalar.Turns(g.Vars[x.Dst], g.Vars[x.Args[0]])
	case api.InsLoad, api.InsStore, api.InsClear:
		return isPlace(x.Ref, len(g.Arrays)) && fitsArray(g, x, g.Arrays[x.Ref].Type)
	case api.InsCall:
		return isPlace(x.Ref, len(p)) && fitsCall(g, x, p[x.Ref])
	}
	return true
}

func fitsAlike(g api.Graph, x api.Ins) bool {
	t := g.Vars[x.Dst]
	for _, v := range x.Args {
		if g.Vars[v] != t {
			return false
		}
	}
	return isType(t)
}

func fitsOp(g api.Graph, x api.Ins) bool {
	first, last := x.Args[0], x.Args[len(x.Args)-1]
	operands := 2
	if x.Op == api.OpNeg || x.Op == api.OpNot {
		operands = 1
	}
	told, ok := scalar.Of(x.Op, g.Vars[first])
	return ok && len(x.Args) == operands && g.Vars[last] == g.Vars[first] && g.Vars[x.Dst] == told
}

// fitsArray is asked of an array whose elements are of the type t.
func fitsArray(g api.Graph, x api.Ins, t api.Type) bool {
	switch x.Kind {
	case api.InsLoad:
		return isOf(g, x.Args[0], api.I64) && isOf(g, x.Dst, t)
	case api.InsStore:
		return isOf(g, x.Args[0], api.I64) && isOf(g, x.Args[1], t)
	}
	return true
}

// fitsCall is asked of a call of a graph that may be none that is right.
func fitsCall(g api.Graph, x api.Ins, called api.Graph) bool {
	if len(x.Args) != len(called.Params) {
		return false
	}
	for i, v := range called.Params {
		if !isPlace(v, len(called.Vars)) || !isOf(g, x.Args[i], called.Vars[v]) {
			return false
		}
	}
	return isOf(g, x.Dst, called.Result)
}

// isOf tells whether a number is a variable of the type t; of what is no type there is none.
func isOf(g api.Graph, v int, t api.Type) bool {
	return isPlace(v, len(g.Vars)) && g.Vars[v] == t && isType(t)
}
