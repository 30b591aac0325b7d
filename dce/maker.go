package dce

import (
	"slices"

	"smithy/api"
)

// asked is a graph, all of its own, without the instructions that do nothing but set what is not needed. Variables that nobody sets any more, and blocks that are empty now, keep their places.
func asked(g api.Graph, needed []bool) api.Graph {
	blocks := make([]api.Block, len(g.Blocks))
	for i, b := range g.Blocks {
		blocks[i] = api.Block{Ins: staying(b.Ins, needed), Term: b.Term}
	}
	g.Blocks = blocks
	g.Params, g.Vars, g.Arrays = slices.Clone(g.Params), slices.Clone(g.Vars), slices.Clone(g.Arrays)
	return g
}

func staying(ins []api.Ins, needed []bool) []api.Ins {
	var stay []api.Ins
	for _, x := range ins {
		if !acts(x) && !needed[x.Dst] {
			continue
		}
		x.Args = copied(x.Args)
		stay = append(stay, x)
	}
	return stay
}

// copied is a list of its own; none, if there is nothing in it.
func copied(args []int) []int {
	if len(args) == 0 {
		return nil
	}
	l := make([]int, len(args))
	copy(l, args)
	return l
}
