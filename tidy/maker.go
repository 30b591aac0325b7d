package tidy

import (
	"slices"

	"smithy/api"
	"smithy/graph"
)

// told is the graph of the blocks that stayed, all of its own. Variables keep their places.
func (j *joiner) told() api.Graph {
	stay := j.staying()
	place := make([]int, len(j.into))
	for i, was := range stay {
		place[was] = i
	}
	g := j.g
	g.Params, g.Vars, g.Arrays = slices.Clone(g.Params), slices.Clone(g.Vars), slices.Clone(g.Arrays)
	g.Blocks = make([]api.Block, len(stay))
	for i, was := range stay {
		g.Blocks[i].Term = j.led(j.ends[was], place)
	}
	ahead := graph.Ahead(g)
	for i, was := range stay {
		var at []int
		if j.args[was] != nil {
			for _, b := range ahead[i] {
				at = append(at, j.args[was][stay[b]])
			}
		}
		g.Blocks[i].Ins = j.ins(was, at)
	}
	return g
}

// staying is the blocks that stayed: the entry, and then the others, in the order in which they stood.
func (j *joiner) staying() []int {
	stay := []int{j.entry}
	for i := range j.into {
		if j.stays(i) && i != j.entry {
			stay = append(stay, i)
		}
	}
	return stay
}

// led is an end that leads to blocks where they stand now.
func (j *joiner) led(t api.Term, place []int) api.Term {
	switch t.Kind {
	case api.TermJump:
		t.To[0] = place[j.now(t.To[0])]
	case api.TermBranch:
		t.To[0], t.To[1] = place[j.now(t.To[0])], place[j.now(t.To[1])]
	}
	return t
}

// ins is the instructions of all that a block is made of. Its phis have the arguments at some places; those of what came to stand behind another block have one, and are copies now. None of these asks another one of its block: what a phi has for the block ahead is set there, or over it.
func (j *joiner) ins(block int, at []int) []api.Ins {
	var ins []api.Ins
	for part := j.first[block]; ; part = j.behind[part] {
		for _, x := range j.g.Blocks[part].Ins {
			switch {
			case x.Kind != api.InsPhi:
				x.Args = slices.Clone(x.Args)
			case part == j.first[block]:
				x.Args = chosen(x.Args, at)
			default:
				x = api.Ins{Kind: api.InsCopy, Dst: x.Dst, Args: []int{x.Args[0]}}
			}
			ins = append(ins, x)
		}
		if part == block {
			return ins
		}
	}
}

// chosen is a list of its own of what stands at some places of another one.
func chosen(l, at []int) []int {
	c := make([]int, len(at))
	for i, k := range at {
		c[i] = l[k]
	}
	return c
}
