package live_test

import (
	"slices"

	"smithy/api"
)

// The words themselves, as slow as they stand there.

// sets tells whether an instruction sets a variable.
func sets(x api.Ins, v int) bool {
	return slices.Contains([]api.InsKind{api.InsPhi, api.InsConst, api.InsCopy, api.InsOp, api.InsCast, api.InsLoad, api.InsCall}, x.Kind) && x.Dst == v
}

// asks tells whether an instruction asks a variable where it stands.
func asks(x api.Ins, v int) bool { return x.Kind != api.InsPhi && slices.Contains(x.Args, v) }

func endAsks(e api.Term, v int) bool {
	return (e.Kind == api.TermBranch || e.Kind == api.TermReturn) && e.Arg == v
}

// edge tells whether one leads from a block to another one.
func edge(g api.Graph, from, to int) bool {
	switch e := g.Blocks[from].Term; e.Kind {
	case api.TermJump:
		return e.To[0] == to
	case api.TermBranch:
		return e.To[0] == to || e.To[1] == to
	}
	return false
}

// blocksAhead are those with an edge to a block, rising.
func blocksAhead(g api.Graph, to int) []int {
	return slices.DeleteFunc(counted(0, len(g.Blocks)), func(from int) bool { return !edge(g, from, to) })
}

// handed tells whether a phi of a block asks a variable at the end of another one.
func handed(g api.Graph, from, to, v int) bool {
	place := slices.Index(blocksAhead(g, to), from)
	for _, x := range g.Blocks[to].Ins {
		if x.Kind == api.InsPhi && place >= 0 && x.Args[place] == v {
			return true
		}
	}
	return false
}

func blockSets(b api.Block, v int) bool {
	return slices.ContainsFunc(b.Ins, func(x api.Ins) bool { return sets(x, v) })
}

// asksFirst tells whether a block asks a variable ahead of setting it.
func asksFirst(b api.Block, v int) bool {
	for _, x := range b.Ins {
		if asks(x, v) {
			return true
		}
		if sets(x, v) {
			return false
		}
	}
	return endAsks(b.Term, v)
}

// leastSets begins with nothing, and lays to each set what must be in it, till that holds of all.
func leastSets(g api.Graph) (into, out [][]int) {
	n := len(g.Blocks)
	in, behind := make([][]bool, n), make([][]bool, n)
	for b := range n {
		in[b], behind[b] = make([]bool, len(g.Vars)), make([]bool, len(g.Vars))
	}
	liveOut := func(b, v int) bool {
		for to := range n {
			if edge(g, b, to) && (in[to][v] || handed(g, b, to, v)) {
				return true
			}
		}
		return false
	}
	for changed := true; changed; {
		changed = false
		for b := range n {
			for v := range g.Vars {
				if !behind[b][v] && liveOut(b, v) {
					behind[b][v], changed = true, true
				}
				if !in[b][v] && (asksFirst(g.Blocks[b], v) || behind[b][v] && !blockSets(g.Blocks[b], v)) {
					in[b][v], changed = true, true
				}
			}
		}
	}
	return places(in), places(behind)
}

// places is for each list where it has true.
func places(l [][]bool) [][]int {
	all := make([][]int, len(l))
	for i := range l {
		all[i] = slices.DeleteFunc(counted(0, len(l[i])), func(v int) bool { return !l[i][v] })
	}
	return all
}

// byWays goes on from each place step by step: a variable is live where some way leads on to where it is asked, on which it is not set.
func byWays(g api.Graph) (into, out [][]int) {
	n := len(g.Blocks)
	in, behind := make([][]bool, n), make([][]bool, n)
	for b := range n {
		in[b], behind[b] = make([]bool, len(g.Vars)), make([]bool, len(g.Vars))
		for v := range g.Vars {
			in[b][v] = leadsOn(g, b, v, make([]bool, n))
			behind[b][v] = leadsOut(g, b, v, make([]bool, n))
		}
	}
	return places(in), places(behind)
}

// leadsOn tells whether a way leads on from a block's head to where a variable is asked; blocks that were met are not gone through again.
func leadsOn(g api.Graph, b, v int, met []bool) bool {
	if met[b] {
		return false
	}
	met[b] = true
	for _, x := range g.Blocks[b].Ins {
		if asks(x, v) {
			return true
		}
		if sets(x, v) {
			return false
		}
	}
	return endAsks(g.Blocks[b].Term, v) || leadsOut(g, b, v, met)
}

func leadsOut(g api.Graph, b, v int, met []bool) bool {
	for to := range g.Blocks {
		if edge(g, b, to) && (handed(g, b, to, v) || leadsOn(g, to, v, met)) {
			return true
		}
	}
	return false
}

// backward is a third way, for graphs too great for the words: each variable goes back by itself from the blocks that ask it.
func backward(g api.Graph) (into, out [][]int) {
	n := len(g.Blocks)
	into, out = make([][]int, n), make([][]int, n)
	aheadOf := make([][]int, n)
	for b := range n {
		to := g.Blocks[b].Term.To
		for i, next := range to[:ends(g.Blocks[b].Term)] {
			if i == 0 || next != to[0] {
				aheadOf[next] = append(aheadOf[next], b)
			}
		}
	}
	first, after, set := marksOf(g, aheadOf)
	for v := range g.Vars {
		in, behind := map[int]int{}, map[int]int{}
		var waiting []int
		enter := func(b int) {
			if in[b] == 0 {
				in[b] = 1
				into[b] = append(into[b], v)
				waiting = append(waiting, b)
			}
		}
		leave := func(b int) {
			if behind[b] == 0 {
				behind[b] = 1
				out[b] = append(out[b], v)
				if set[[2]int{b, v}] == 0 {
					enter(b)
				}
			}
		}
		for _, b := range first[v] {
			enter(b)
		}
		for _, b := range after[v] {
			leave(b)
		}
		for len(waiting) > 0 {
			b := waiting[0]
			waiting = waiting[1:]
			for _, from := range aheadOf[b] {
				leave(from)
			}
		}
	}
	return into, out
}

// ends is how many To an end has.
func ends(e api.Term) int {
	switch e.Kind {
	case api.TermJump:
		return 1
	case api.TermBranch:
		return 2
	}
	return 0
}

// marksOf is for each variable the blocks that ask it ahead of setting it, those at whose end a phi asks it, and which blocks set it.
func marksOf(g api.Graph, aheadOf [][]int) (first, after [][]int, set map[[2]int]int) {
	first, after, set = make([][]int, len(g.Vars)), make([][]int, len(g.Vars)), map[[2]int]int{}
	for b, x := range g.Blocks {
		ask := func(v int) {
			if set[[2]int{b, v}] == 0 {
				first[v] = append(first[v], b)
			}
		}
		for _, y := range x.Ins {
			for i, v := range y.Args {
				if y.Kind == api.InsPhi {
					after[v] = append(after[v], aheadOf[b][i])
				} else {
					ask(v)
				}
			}
			if sets(y, y.Dst) {
				set[[2]int{b, y.Dst}] = 1
			}
		}
		if endAsks(x.Term, x.Term.Arg) {
			ask(x.Term.Arg)
		}
	}
	return first, after, set
}
