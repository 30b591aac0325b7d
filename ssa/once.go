package ssa

import (
	"slices"

	"smithy/api"
	"smithy/shape"
)

// setting is where a variable is set: in a block, by the instruction at a place. Parameters are set ahead of the entry's first one.
type setting struct {
	block, place int
}

// settings is where each variable of a graph is set, and whether none is set twice.
func settings(g api.Graph) ([]setting, bool) {
	at := slices.Repeat([]setting{{none, none}}, len(g.Vars))
	once := true
	set := func(v, block, place int) {
		once = once && at[v].block == none
		at[v] = setting{block, place}
	}
	for _, v := range g.Params {
		set(v, 0, none)
	}
	for i, b := range g.Blocks {
		for j, x := range b.Ins {
			if shape.Sets(x) {
				set(x.Dst, i, j)
			}
		}
	}
	return at, once
}

// usesBehind tells whether each use of a variable stands behind its setting, in a graph all of whose blocks are reached.
func usesBehind(g api.Graph, at []setting) bool {
	n := netOf(g)
	behind := func(v, block, place int) bool {
		s := at[v]
		if s.block == block {
			return s.place < place
		}
		return s.block != none && n.over(s.block, block)
	}
	end := func(block int) int { return len(g.Blocks[block].Ins) }
	for i, b := range g.Blocks {
		for j, x := range b.Ins {
			for k, v := range x.Args {
				block, place := i, j
				if x.Kind == api.InsPhi {
					block = n.ahead[i][k]
					place = end(block)
				}
				if !behind(v, block, place) {
					return false
				}
			}
		}
		if shape.Asks(b.Term) && !behind(b.Term.Arg, i, end(i)) {
			return false
		}
	}
	return true
}
