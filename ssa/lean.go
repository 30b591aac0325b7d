package ssa

import (
	"slices"

	"smithy/api"
	"smithy/shape"
)

// lean is a graph, which is set once and is the maker's own, without settings that nobody needs. Later layers find these by themselves: they are taken out here only where there are more variables than a graph may have.
func lean(g api.Graph) api.Graph {
	needed := neededIn(g)
	isIdle := func(x api.Ins) bool { return onlySets(x) && !needed[x.Dst] }
	names := make([]int, len(g.Vars))
	var vars []api.Type
	for _, v := range places(needed) {
		names[v] = len(vars)
		vars = append(vars, g.Vars[v])
	}
	rename := func(l []int) {
		for i, v := range l {
			l[i] = names[v]
		}
	}
	rename(g.Params)
	for i := range g.Blocks {
		b := &g.Blocks[i]
		b.Ins = slices.DeleteFunc(b.Ins, isIdle)
		for j := range b.Ins {
			x := &b.Ins[j]
			rename(x.Args)
			if shape.Sets(*x) {
				x.Dst = names[x.Dst]
			}
		}
		if shape.Asks(b.Term) {
			b.Term.Arg = names[b.Term.Arg]
		}
	}
	g.Vars = vars
	return g
}

// onlySets tells whether an instruction does nothing but set its variable: a call may show something, trap, or never end.
func onlySets(x api.Ins) bool {
	return shape.Sets(x) && x.Kind != api.InsCall
}

// neededIn is which variables of a graph, which is set once, are needed: parameters, what calls set, what is asked by an end or by what does more than set a variable, and what is asked where a needed one is set.
func neededIn(g api.Graph) []bool {
	needed, asks := make([]bool, len(g.Vars)), make([][]int, len(g.Vars))
	var waiting []int
	need := func(vars []int) {
		for _, v := range vars {
			if !needed[v] {
				needed[v] = true
				waiting = append(waiting, v)
			}
		}
	}
	need(g.Params)
	for _, b := range g.Blocks {
		for _, x := range b.Ins {
			if onlySets(x) {
				asks[x.Dst] = x.Args
				continue
			}
			need(x.Args)
			if shape.Sets(x) {
				need([]int{x.Dst})
			}
		}
		if shape.Asks(b.Term) {
			need([]int{b.Term.Arg})
		}
	}
	for len(waiting) > 0 {
		last := len(waiting) - 1
		v := waiting[last]
		waiting = waiting[:last]
		need(asks[v])
	}
	return needed
}
