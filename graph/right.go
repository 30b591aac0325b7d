package graph

import (
	"slices"

	"smithy/api"
	"smithy/scalar"
)

// right tells whether a graph is right in the program p.
func right(p []api.Graph, g api.Graph) bool {
	return rightSizes(g) && rightTypes(g) && rightParams(g) && rightEnds(g) && rightIns(p, g) && rightPhis(g)
}

func rightSizes(g api.Graph) bool {
	return len(g.Blocks) > 0 && len(g.Blocks) <= api.MaxBlocks && len(g.Vars) <= api.MaxVars && len(g.Arrays) <= api.MaxVars
}

func rightTypes(g api.Graph) bool {
	for _, t := range g.Vars {
		if !isType(t) {
			return false
		}
	}
	for _, a := range g.Arrays {
		if !isType(a.Type) || a.Size < 1 || a.Size > api.MaxArray {
			return false
		}
	}
	return isType(g.Result)
}

// isType goes by the word 0, which each type has.
func isType(t api.Type) bool {
	return scalar.Right(t, 0)
}

func rightParams(g api.Graph) bool {
	if len(g.Params) > api.MaxParams {
		return false
	}
	for i, v := range g.Params {
		if !isPlace(v, len(g.Vars)) || slices.Contains(g.Params[:i], v) {
			return false
		}
	}
	return true
}

func rightEnds(g api.Graph) bool {
	for _, b := range g.Blocks {
		if !rightEnd(g, b.Term) {
			return false
		}
	}
	return true
}

// rightEnd holds an end against one that has just the fields of its kind.
func rightEnd(g api.Graph, t api.Term) bool {
	only := api.Term{Kind: t.Kind}
	fits := false
	switch t.Kind {
	case api.TermJump:
		only.To[0] = t.To[0]
		fits = behindEntry(g, t.To[0])
	case api.TermBranch:
		only.Arg, only.To = t.Arg, t.To
		fits = isOf(g, t.Arg, api.Bool) && behindEntry(g, t.To[0]) && behindEntry(g, t.To[1])
	case api.TermReturn:
		only.Arg = t.Arg
		fits = isOf(g, t.Arg, g.Result)
	case api.TermTrap:
		only.Trap = t.Trap
		fits = api.TrapZero <= t.Trap && t.Trap <= api.TrapIndex
	}
	return fits && t == only
}

// behindEntry tells whether there is a block at a place, which is not the entry.
func behindEntry(g api.Graph, to int) bool {
	return to != 0 && isPlace(to, len(g.Blocks))
}

func rightIns(p []api.Graph, g api.Graph) bool {
	for _, b := range g.Blocks {
		for _, x := range b.Ins {
			if _, ok := Type(p, g, x); !ok {
				return false
			}
		}
	}
	return true
}

// rightPhis tells whether phis, which may stand in the graph, stand where they may, with an argument for each block ahead.
func rightPhis(g api.Graph) bool {
	ahead := Ahead(g)
	// Of each variable the last block whose phi sets it: 0 is none, since the entry has no phis.
	setIn := make([]int, len(g.Vars))
	for i, b := range g.Blocks {
		atHead := i > 0
		for _, x := range b.Ins {
			if x.Kind != api.InsPhi {
				atHead = false
				continue
			}
			if !atHead || len(x.Args) != len(ahead[i]) || setIn[x.Dst] == i {
				return false
			}
			setIn[x.Dst] = i
		}
	}
	return true
}
