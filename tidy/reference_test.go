package tidy_test

import (
	"slices"

	"smithy/api"
	"smithy/graph"
)

// The words themselves, as slow as they stand there.

// isClean tells whether a graph is clean.
func isClean(g api.Graph) bool {
	if !isAlone(g) || slices.Contains(reached(g), false) {
		return false
	}
	for i, b := range g.Blocks {
		if b.Term.Kind == api.TermBranch && b.Term.To[0] == b.Term.To[1] {
			return false
		}
		ahead := blocksAhead(g, i)
		if len(ahead) == 1 && ahead[0] != i && g.Blocks[ahead[0]].Term.Kind == api.TermJump {
			return false
		}
		if len(b.Ins) > 0 || i == 0 || b.Term.Kind != api.TermJump || b.Term.To[0] == i {
			continue
		}
		to := b.Term.To[0]
		phis := slices.ContainsFunc(g.Blocks[to].Ins, isPhi)
		both := slices.ContainsFunc(blocksAhead(g, to), func(from int) bool { return slices.Contains(ahead, from) })
		if !phis || !both {
			return false
		}
	}
	return true
}

func isPhi(x api.Ins) bool { return x.Kind == api.InsPhi }

// isAlone tells whether a graph is right by itself: with a constant in each call's place it is right.
func isAlone(g api.Graph) bool {
	g = copied(g)
	for _, b := range g.Blocks {
		for j, x := range b.Ins {
			if x.Kind != api.InsCall {
				continue
			}
			if x.Ref < 0 || x.Op != 0 || x.Bits != 0 || slices.ContainsFunc(x.Args, func(v int) bool { return v < 0 || v >= len(g.Vars) }) {
				return false
			}
			b.Ins[j] = number(x.Dst, 0)
		}
	}
	e, _ := graph.Check(alone(g))
	return e == api.OK
}

// reached is which blocks ways from the entry lead to.
func reached(g api.Graph) []bool {
	met := make([]bool, len(g.Blocks))
	met[0] = true
	for waiting := row(0); len(waiting) > 0; waiting = waiting[1:] {
		e := g.Blocks[waiting[0]].Term
		for _, to := range e.To[:ends(e)] {
			if !met[to] {
				met[to] = true
				waiting = append(waiting, to)
			}
		}
	}
	return met
}

// isKept tells whether one trace is what must be where the other one was.
func isKept(a, b api.Trace) bool {
	if len(a.Shows) > len(b.Shows) || !slices.Equal(a.Shows, b.Shows[:len(a.Shows)]) {
		return false
	}
	if a.End != api.Told && a.End != api.Trapped {
		return true
	}
	return len(a.Shows) == len(b.Shows) && a.End == b.End && a.Value == b.Value && a.Trap == b.Trap && a.Depth == b.Depth && b.Steps <= a.Steps
}

// sets tells whether an instruction sets its Dst.
func sets(x api.Ins) bool {
	return slices.Contains([]api.InsKind{api.InsPhi, api.InsConst, api.InsCopy, api.InsOp, api.InsCast, api.InsLoad, api.InsCall}, x.Kind)
}

// ends is how many To an end has.
func ends(e api.Term) int {
	switch e.Kind {
	case api.TermJump:
		return 1
	case api.TermBranch:
		return 2
	}
	return 0
}

// blocksAhead are those with an edge to a block, rising.
func blocksAhead(g api.Graph, to int) []int {
	var l []int
	for from, b := range g.Blocks {
		if slices.Contains(b.Term.To[:ends(b.Term)], to) {
			l = append(l, from)
		}
	}
	return l
}
