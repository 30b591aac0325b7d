package ssa

import (
	"container/heap"
	"math/bits"
	"slices"

	"smithy/api"
	"smithy/shape"
	"smithy/strips"
)

// joined is for each block of a graph the variables that need a phi there, rising: those that are live into it, and that it joins. It is false if there are more phis than a graph may have variables.
func joined(g api.Graph, n net) ([][]int, bool) {
	phis := make([][]int, len(g.Blocks))
	count := 0
	flow, j := strips.New(n.ahead), newJoiner(n)
	for _, s := range strips.Of(g, n.ahead, mixed(g, n)) {
		flow.Fill(s)
		j.fill(s.Sets, flow.Into)
		for _, block := range j.met {
			count += bits.OnesCount64(j.phis[block])
			phis[block] = s.Told(phis[block], j.phis[block])
		}
		if count > api.MaxVars {
			return nil, false
		}
		j.empty()
		flow.Empty(s)
	}
	return phis, true
}

// mixed is the variables, rising, of which two settings may come to one block. (What the entry sets counts for nothing, nor does it that variables are 0 ahead of it: that comes everywhere, but for where it is set anew.)
func mixed(g api.Graph, n net) []int {
	homes := setBy(g)
	isMixed, setIn := make([]bool, len(g.Vars)), make([]int, len(g.Vars))
	for i, b := range g.Blocks {
		// A block that is the only one to set a variable settles what comes to those that it stands over.
		ask := func(v int) {
			home := homes[v]
			if setIn[v] != i && home != 0 && (home == none || !n.strictlyOver(home, i)) {
				isMixed[v] = true
			}
		}
		for _, x := range b.Ins {
			for _, v := range x.Args {
				ask(v)
			}
			if shape.Sets(x) {
				setIn[x.Dst] = i
			}
		}
		if shape.Asks(b.Term) {
			ask(b.Term.Arg)
		}
	}
	return places(isMixed)
}

// setBy is for each variable the block that sets it, the entry aside: 0, if there is none; none, if there are several.
func setBy(g api.Graph) []int {
	homes := make([]int, len(g.Vars))
	for i, b := range g.Blocks {
		for _, x := range b.Ins {
			if !shape.Sets(x) {
				continue
			}
			switch homes[x.Dst] {
			case 0, i:
				homes[x.Dst] = i
			default:
				homes[x.Dst] = none
			}
		}
	}
	return homes
}

// places is where a list has true.
func places(l []bool) []int {
	var at []int
	for i, is := range l {
		if is {
			at = append(at, i)
		}
	}
	return at
}

// joiner finds where variables of one strip after the other are joined: in the fronts of the blocks that set them, and in the fronts of these, as far as they are live there. It goes through a block once for each variable that is live into it, at most. (front.Joins goes through the whole graph for one variable; front.Fronts of loops in loops may be as many as there are blocks, times themselves.)
type joiner struct {
	net
	depth   []int    // how many blocks stand strictly over each
	high    []int    // the least depth to which an edge leads from a block, or from what it stands over
	marks   []uint64 // variables that a block sets, or has a phi for
	phis    []uint64 // those that it has a phi for
	news    []uint64 // marks whose fronts were not looked for yet
	waiting latest   // places of blocks with news
	met     []int    // blocks with marks
}

func newJoiner(n net) *joiner {
	row := func() []uint64 { return make([]uint64, len(n.next)) }
	j := &joiner{net: n, depth: make([]int, len(n.next)), high: make([]int, len(n.next)), marks: row(), phis: row(), news: row()}
	for _, block := range n.row[1:] {
		j.depth[block] = j.depth[n.nearest[block]] + 1
	}
	for _, block := range slices.Backward(n.row) {
		j.high[block] = len(n.next)
		for _, to := range n.next[block] {
			j.high[block] = min(j.high[block], j.depth[to])
		}
		for _, under := range n.under[block] {
			j.high[block] = min(j.high[block], j.high[under])
		}
	}
	return j
}

// fill finds the phis of a strip whose variables are set, and are live, there.
func (j *joiner) fill(sets []strips.Mark, into []uint64) {
	for _, m := range sets {
		j.mark(m.Block, m.Vars)
	}
	// The block that stands last in the row goes first: so when a block's turn comes, whatever it stands over has had its turn already.
	for len(j.waiting) > 0 {
		block := j.row[heap.Pop(&j.waiting).(int)]
		news := j.news[block]
		j.news[block] = 0
		j.look(block, news, into)
	}
}

// empty takes all marks away.
func (j *joiner) empty() {
	for _, block := range j.met {
		j.marks[block], j.phis[block] = 0, 0
	}
	j.met = j.met[:0]
}

func (j *joiner) mark(block int, vars uint64) {
	vars &^= j.marks[block]
	if vars == 0 {
		return
	}
	if j.marks[block] == 0 {
		j.met = append(j.met, block)
	}
	if j.news[block] == 0 {
		heap.Push(&j.waiting, j.place[block])
	}
	j.marks[block] |= vars
	j.news[block] |= vars
}

// look lays variables to the blocks of a block's front: those that are no deeper than it is itself, to which edges lead from what it stands over. It goes down as far as such edges are there, and the variables are live and not marked: what is marked has looked for itself.
func (j *joiner) look(top int, vars uint64, into []uint64) {
	for waiting := []strips.Mark{{Block: top, Vars: vars}}; len(waiting) > 0; {
		last := len(waiting) - 1
		at := waiting[last]
		waiting = waiting[:last]
		for _, to := range j.next[at.Block] {
			if meet := at.Vars & into[to]; meet != 0 && j.depth[to] <= j.depth[top] {
				j.mark(to, meet)
				j.phis[to] |= meet
			}
		}
		for _, block := range j.under[at.Block] {
			if left := at.Vars & into[block] &^ j.marks[block]; left != 0 && j.high[block] <= j.depth[top] {
				waiting = append(waiting, strips.Mark{Block: block, Vars: left})
			}
		}
	}
}

// latest is numbers that wait, of which the greatest one goes first.
type latest []int

func (l latest) Len() int           { return len(l) }
func (l latest) Less(i, j int) bool { return l[i] > l[j] }
func (l latest) Swap(i, j int)      { l[i], l[j] = l[j], l[i] }
func (l *latest) Push(x any)        { *l = append(*l, x.(int)) }

func (l *latest) Pop() any {
	last := len(*l) - 1
	x := (*l)[last]
	*l = (*l)[:last]
	return x
}
