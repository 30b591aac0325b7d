package gvn

import (
	"slices"

	"smithy/api"
	"smithy/shape"
)

// rewritten is a graph in which only who holds a word sets and is asked for it. Variables that nobody sets any more keep their places.
func rewritten(g api.Graph, holder []int) api.Graph {
	blocks := make([]api.Block, len(g.Blocks))
	for i, b := range g.Blocks {
		blocks[i] = rewrittenBlock(b, holder)
	}
	g.Blocks = blocks
	g.Params, g.Vars, g.Arrays = slices.Clone(g.Params), slices.Clone(g.Vars), slices.Clone(g.Arrays)
	return g
}

func rewrittenBlock(b api.Block, holder []int) api.Block {
	ins := make([]api.Ins, 0, len(b.Ins))
	for _, x := range b.Ins {
		// What prints, stores or clears sets nothing, whatever its Dst says.
		if shape.Sets(x) && holder[x.Dst] != x.Dst {
			continue
		}
		x.Args = held(x.Args, holder)
		ins = append(ins, x)
	}
	if shape.Asks(b.Term) {
		b.Term.Arg = holder[b.Term.Arg]
	}
	b.Ins = ins
	return b
}

// held is a list of its own of who holds the words of variables.
func held(vars, holder []int) []int {
	l := make([]int, len(vars))
	for i, v := range vars {
		l[i] = holder[v]
	}
	return l
}
