package ssa_test

import (
	"slices"

	"smithy/api"
	"smithy/front"
	"smithy/graph"
	"smithy/live"
)

// The words themselves, as slow as they stand there.

// sets tells whether an instruction sets a variable.
func sets(x api.Ins, v int) bool {
	return slices.Contains([]api.InsKind{api.InsPhi, api.InsConst, api.InsCopy, api.InsOp, api.InsCast, api.InsLoad, api.InsCall}, x.Kind) && x.Dst == v
}

func endAsks(e api.Term) bool { return e.Kind == api.TermBranch || e.Kind == api.TermReturn }

// edge tells whether one leads from a block to another one.
func edge(g api.Graph, from, to int) bool {
	switch e := g.Blocks[from].Term; e.Kind {
	case api.TermJump:
		return e.To[0] == to
	case api.TermBranch:
		return e.To[0] == to || e.To[1] == to
	}
	return false
}

// blocksAhead are those with an edge to a block, rising.
func blocksAhead(g api.Graph, to int) []int {
	return slices.DeleteFunc(counted(0, len(g.Blocks)), func(from int) bool { return !edge(g, from, to) })
}

// ends is how many To an end has.
func ends(e api.Term) int {
	switch e.Kind {
	case api.TermJump:
		return 1
	case api.TermBranch:
		return 2
	}
	return 0
}

// isAlone tells whether a graph is right by itself: each of its calls is given a graph that it fits.
func isAlone(g api.Graph) bool {
	g = copied(g)
	var called []api.Graph
	for _, b := range g.Blocks {
		for i, x := range b.Ins {
			if x.Kind != api.InsCall {
				continue
			}
			if x.Ref < 0 || slices.ContainsFunc(append(x.Args, x.Dst), func(v int) bool { return v < 0 || v >= len(g.Vars) }) {
				return false
			}
			f := api.Graph{Result: g.Vars[x.Dst], Params: counted(0, len(x.Args))}
			for _, v := range x.Args {
				f.Vars = append(f.Vars, g.Vars[v])
			}
			called = append(called, f)
			b.Ins[i].Ref = len(called)
		}
	}
	e, at := graph.Check(append([]api.Graph{g}, called...))
	return e == api.OK || e == api.ErrShape && at > 0
}

// reached is which blocks ways from the entry lead to that do not go by one block (-1: by any).
func reached(g api.Graph, but int) []bool {
	met := make([]bool, len(g.Blocks))
	if but == 0 {
		return met
	}
	met[0] = true
	for waiting := row(0); len(waiting) > 0; waiting = waiting[1:] {
		e := g.Blocks[waiting[0]].Term
		for _, to := range e.To[:ends(e)] {
			if !met[to] && to != but {
				met[to] = true
				waiting = append(waiting, to)
			}
		}
	}
	return met
}

// setting is a block, and a place among its instructions.
type setting struct{ block, place int }

// isOnce tells whether a graph is set once.
func isOnce(g api.Graph) bool {
	if !isAlone(g) || slices.Contains(reached(g, -1), false) {
		return false
	}
	without := make([][]bool, len(g.Blocks))
	for i := range without {
		without[i] = reached(g, i)
	}
	all := make([][]setting, len(g.Vars))
	for _, v := range g.Params {
		all[v] = append(all[v], setting{0, -1})
	}
	for i, b := range g.Blocks {
		for j, x := range b.Ins {
			if sets(x, x.Dst) {
				all[x.Dst] = append(all[x.Dst], setting{i, j})
			}
		}
	}
	if slices.ContainsFunc(all, func(l []setting) bool { return len(l) > 1 }) {
		return false
	}
	for _, u := range usesOf(g) {
		if len(all[u.v]) == 0 {
			return false
		}
		s := all[u.v][0]
		inside := s.block == u.block && s.place < u.place
		over := s.block != u.block && !without[s.block][u.block]
		if !inside && !over {
			return false
		}
	}
	return true
}

// use is a variable that is asked at a place of a block: a phi's argument behind all of the block ahead.
type use struct{ v, block, place int }

func usesOf(g api.Graph) []use {
	var l []use
	for i, b := range g.Blocks {
		ahead := blocksAhead(g, i)
		for j, x := range b.Ins {
			for k, v := range x.Args {
				if x.Kind == api.InsPhi {
					l = append(l, use{v, ahead[k], len(g.Blocks[ahead[k]].Ins)})
				} else {
					l = append(l, use{v, i, j})
				}
			}
		}
		if endAsks(b.Term) {
			l = append(l, use{b.Term.Arg, i, len(b.Ins)})
		}
	}
	return l
}

// unneeded is the variables of phis that are not needed: what is needed begins with what others than phis ask, and goes on with what needed phis ask.
func unneeded(g api.Graph) []int {
	needed := make([]bool, len(g.Vars))
	phis := map[int][]int{}
	for _, b := range g.Blocks {
		for _, x := range b.Ins {
			if x.Kind == api.InsPhi {
				phis[x.Dst] = x.Args
				continue
			}
			for _, v := range x.Args {
				needed[v] = true
			}
		}
		if endAsks(b.Term) {
			needed[b.Term.Arg] = true
		}
	}
	for changed := true; changed; {
		changed = false
		for dst, args := range phis {
			for _, v := range args {
				if needed[dst] && !needed[v] {
					needed[v], changed = true, true
				}
			}
		}
	}
	var l []int
	for dst := range phis {
		if !needed[dst] {
			l = append(l, dst)
		}
	}
	return l
}

// fewest is how many phis a graph needs: a variable needs one in the joins of the blocks that set it, where it is live.
func fewest(g api.Graph) int {
	g = graph.Trim(g)
	next := make([][]int, len(g.Blocks))
	for i, b := range g.Blocks {
		next[i] = graph.Next(b)
	}
	into, _, _ := live.Live(g)
	n := 0
	for v := range g.Vars {
		var from []int
		for i, b := range g.Blocks {
			if slices.ContainsFunc(b.Ins, func(x api.Ins) bool { return sets(x, v) }) {
				from = append(from, i)
			}
		}
		joins, _ := front.Joins(next, from)
		for _, i := range joins {
			if slices.Contains(into[i], v) {
				n++
			}
		}
	}
	return n
}
