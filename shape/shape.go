// Package shape is what several layers ask of graphs beside what package graph tells (shared/doc/07-graph.md and 12-live.md, Words).
package shape

import (
	"slices"

	"smithy/api"
	"smithy/graph"
)

// Alone tells whether a graph is right by itself: right, whatever it is that its calls name.
func Alone(g api.Graph) bool {
	if !rightCalls(g) {
		return false
	}
	err, _ := graph.Check([]api.Graph{withoutCalls(g)})
	return err == api.OK
}

// Sets tells whether an instruction sets its Dst.
func Sets(x api.Ins) bool {
	switch x.Kind {
	case api.InsStore, api.InsClear, api.InsPrint:
		return false
	}
	return true
}

// Asks tells whether a block's end asks its Arg.
func Asks(t api.Term) bool {
	return t.Kind == api.TermBranch || t.Kind == api.TermReturn
}

func isCall(x api.Ins) bool {
	return x.Kind == api.InsCall
}

// rightCalls tells what withoutCalls drops of calls: whether each names something, and has variables as its arguments.
func rightCalls(g api.Graph) bool {
	isNone := func(v int) bool { return v < 0 || v >= len(g.Vars) }
	for _, b := range g.Blocks {
		for _, x := range b.Ins {
			if isCall(x) && (x.Ref < 0 || slices.ContainsFunc(x.Args, isNone)) {
				return false
			}
		}
	}
	return true
}

// withoutCalls is a graph in which each call is a copy that may stand there just if the call may: Dst must be a variable, Op and Bits must be 0. Something has to stand there, since no phi may stand behind it.
func withoutCalls(g api.Graph) api.Graph {
	blocks := slices.Clone(g.Blocks)
	for i, b := range blocks {
		if !slices.ContainsFunc(b.Ins, isCall) {
			continue
		}
		ins := slices.Clone(b.Ins)
		for j, x := range ins {
			if isCall(x) {
				ins[j] = api.Ins{Kind: api.InsCopy, Op: x.Op, Dst: x.Dst, Args: []int{x.Dst}, Bits: x.Bits}
			}
		}
		blocks[i].Ins = ins
	}
	g.Blocks = blocks
	return g
}
