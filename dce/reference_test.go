package dce_test

import (
	"slices"

	"smithy/api"
	"smithy/graph"
)

// The words themselves, as slow as they stand there.

// isAlone tells whether a graph is right by itself: with a constant in each call's place it is right.
func isAlone(g api.Graph) bool {
	g = copied(g)
	for _, b := range g.Blocks {
		for j, x := range b.Ins {
			if x.Kind != api.InsCall {
				continue
			}
			if x.Ref < 0 || x.Op != 0 || x.Bits != 0 || slices.ContainsFunc(x.Args, func(v int) bool { return v < 0 || v >= len(g.Vars) }) {
				return false
			}
			b.Ins[j] = number(x.Dst, 0)
		}
	}
	e, _ := graph.Check(alone(g))
	return e == api.OK
}

// neededByWords goes over the graph again and again, till nothing more is needed.
func neededByWords(g api.Graph) []bool {
	if !isAlone(g) {
		return nil
	}
	needed := make([]bool, len(g.Vars))
	for more := true; more; {
		more = false
		need := func(v int) {
			more = more || !needed[v]
			needed[v] = true
		}
		for _, b := range g.Blocks {
			for _, x := range b.Ins {
				asks := x.Kind == api.InsStore || x.Kind == api.InsCall || x.Kind == api.InsPrint
				if asks || sets(x) && needed[x.Dst] {
					for _, v := range x.Args {
						need(v)
					}
				}
			}
			if b.Term.Kind == api.TermBranch || b.Term.Kind == api.TermReturn {
				need(b.Term.Arg)
			}
		}
	}
	return needed
}

// leftByWords is what Apply must tell of a graph that is right.
func leftByWords(g api.Graph) api.Graph {
	needed := neededByWords(g)
	g = copied(g)
	for i := range g.Blocks {
		g.Blocks[i].Ins = slices.DeleteFunc(g.Blocks[i].Ins, func(x api.Ins) bool { return goes(x, needed) })
	}
	return g
}

func goes(x api.Ins, needed []bool) bool {
	return x.Kind != api.InsStore && x.Kind != api.InsClear && x.Kind != api.InsCall && x.Kind != api.InsPrint && !needed[x.Dst]
}

// isSame tells whether two traces are the same.
func isSame(a, b api.Trace) bool {
	return slices.Equal(a.Shows, b.Shows) && a.End == b.End && a.Value == b.Value && a.Trap == b.Trap && a.Steps == b.Steps && a.Depth == b.Depth
}

// sets tells whether an instruction sets its Dst.
func sets(x api.Ins) bool {
	return slices.Contains([]api.InsKind{api.InsPhi, api.InsConst, api.InsCopy, api.InsOp, api.InsCast, api.InsLoad, api.InsCall}, x.Kind)
}

// ends is how many To an end has.
func ends(e api.Term) int {
	switch e.Kind {
	case api.TermJump:
		return 1
	case api.TermBranch:
		return 2
	}
	return 0
}

// blocksAhead are those with an edge to a block, rising.
func blocksAhead(g api.Graph, to int) []int {
	var l []int
	for from, b := range g.Blocks {
		if slices.Contains(b.Term.To[:ends(b.Term)], to) {
			l = append(l, from)
		}
	}
	return l
}
