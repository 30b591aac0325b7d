package gvn_test

import (
	"slices"

	"smithy/api"
	"smithy/ssa"
)

// The words themselves, as slow as they stand there.

// isClean tells whether a graph is clean.
func isClean(g api.Graph) bool {
	if !ssa.Is(g) {
		return false
	}
	for i, b := range g.Blocks {
		without := reached(g, i)
		for j, x := range b.Ins {
			if x.Kind == api.InsCopy {
				return false
			}
			for _, y := range b.Ins[j+1:] {
				if alike(g, x, y) {
					return false
				}
			}
			for k, c := range g.Blocks {
				over := k != i && !without[k]
				if over && slices.ContainsFunc(c.Ins, func(y api.Ins) bool { return alike(g, x, y) }) {
					return false
				}
			}
		}
	}
	return true
}

// alike tells whether two instructions of a graph are reckoned alike.
func alike(g api.Graph, x, y api.Ins) bool {
	if !slices.Contains([]api.InsKind{api.InsConst, api.InsOp, api.InsCast}, x.Kind) || x.Kind != y.Kind {
		return false
	}
	if x.Op != y.Op || x.Bits != y.Bits || g.Vars[x.Dst] != g.Vars[y.Dst] {
		return false
	}
	if slices.Equal(x.Args, y.Args) {
		return true
	}
	either := []api.Op{api.OpAdd, api.OpMul, api.OpAnd, api.OpOr, api.OpXor, api.OpEq, api.OpNe}
	return slices.Contains(either, x.Op) && x.Args[0] == y.Args[1] && x.Args[1] == y.Args[0]
}

// reached is which blocks ways from the entry lead to that do not go by one block (-1: by any).
func reached(g api.Graph, but int) []bool {
	met := make([]bool, len(g.Blocks))
	if but == 0 {
		return met
	}
	met[0] = true
	for waiting := row(0); len(waiting) > 0; waiting = waiting[1:] {
		e := g.Blocks[waiting[0]].Term
		for _, to := range e.To[:ends(e)] {
			if !met[to] && to != but {
				met[to] = true
				waiting = append(waiting, to)
			}
		}
	}
	return met
}

// isSame tells whether two traces are the same.
func isSame(a, b api.Trace) bool {
	return slices.Equal(a.Shows, b.Shows) && a.End == b.End && a.Value == b.Value && a.Trap == b.Trap && a.Steps == b.Steps && a.Depth == b.Depth
}

// sets tells whether an instruction sets its Dst.
func sets(x api.Ins) bool {
	return slices.Contains([]api.InsKind{api.InsPhi, api.InsConst, api.InsCopy, api.InsOp, api.InsCast, api.InsLoad, api.InsCall}, x.Kind)
}

// ends is how many To an end has.
func ends(e api.Term) int {
	switch e.Kind {
	case api.TermJump:
		return 1
	case api.TermBranch:
		return 2
	}
	return 0
}

// blocksAhead are those with an edge to a block, rising.
func blocksAhead(g api.Graph, to int) []int {
	var l []int
	for from, b := range g.Blocks {
		if slices.Contains(b.Term.To[:ends(b.Term)], to) {
			l = append(l, from)
		}
	}
	return l
}
