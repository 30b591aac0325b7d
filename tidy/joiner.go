package tidy

import (
	"smithy/api"
	"smithy/graph"
)

// joiner puts the blocks of a graph that is set once together. A block is put into the one that it jumps to, by whose number both go from then on: so what that one ends in keeps its place, and who leads to the other one need not be told, but is asked where that is now. However long a row of blocks becomes one, each edge is looked at a few times alone.
type joiner struct {
	g       api.Graph
	into    []int         // for each block the one that it was put into; itself, if it stays
	ends    []api.Term    // To are blocks that may have been put into others since
	ahead   [][]int       // the blocks with an edge to each; those that were put into others since may be among them still
	ways    []int         // how many of these still stay
	args    []map[int]int // of each block that begins with phis: by blocks ahead, at which place of its phis' Args those for them stand
	full    []bool        // whether there are instructions in it
	first   []int         // the first one of the blocks that each is made of
	behind  []int         // for each of these, but for the last one, the next one; the last one is the block itself
	entry   int
	waiting []int // blocks that are still to be looked at
}

func newJoiner(g api.Graph) *joiner {
	n := len(g.Blocks)
	j := &joiner{g: g, into: places(n), ends: make([]api.Term, n), ahead: graph.Ahead(g), ways: make([]int, n), args: make([]map[int]int, n), full: make([]bool, n), first: places(n), behind: make([]int, n), waiting: places(n)}
	for i, b := range g.Blocks {
		j.ends[i] = b.Term
		if isOneWay(b.Term) {
			j.ends[i] = jumpTo(b.Term.To[0])
		}
		j.ways[i] = len(j.ahead[i])
		j.full[i] = len(b.Ins) > 0
		if hasPhi(b) {
			j.args[i] = placesOf(j.ahead[i])
		}
	}
	return j
}

// places is the places of a list of that length.
func places(length int) []int {
	l := make([]int, length)
	for i := range l {
		l[i] = i
	}
	return l
}

// placesOf is the place at which each block stands in a list.
func placesOf(blocks []int) map[int]int {
	m := make(map[int]int, len(blocks))
	for i, b := range blocks {
		m[b] = i
	}
	return m
}

func jumpTo(block int) api.Term {
	return api.Term{Kind: api.TermJump, To: [2]int{block, 0}}
}

// join goes on till nothing changes. Nothing but that its end has become a jump lets a block go that was looked at already and stayed: so all wait once, and those once more.
func (j *joiner) join() {
again:
	if len(j.waiting) == 0 {
		return
	}
	last := len(j.waiting) - 1
	block := j.waiting[last]
	j.waiting = j.waiting[:last]
	j.look(block)
	goto again
}

// look puts a block into the one that it jumps to, where no clean graph has both.
func (j *joiner) look(block int) {
	if !j.stays(block) || j.ends[block].Kind != api.TermJump {
		return
	}
	to := j.now(j.ends[block].To[0])
	switch {
	case to == block:
	case j.ways[to] == 1:
		j.prepend(block, to)
	case block == j.entry || j.full[block]:
	case j.args[to] == nil:
		j.pass(block, to)
	case !j.meet(block, to):
		j.handOn(block, to)
		j.pass(block, to)
	}
}

func (j *joiner) stays(block int) bool {
	return j.into[block] == block
}

// now is the block that another one is part of. What lies between is passed over the next time.
func (j *joiner) now(block int) int {
	for !j.stays(block) {
		j.into[block] = j.into[j.into[block]]
		block = j.into[block]
	}
	return block
}

// prepend puts a block into the one that it alone leads to: what it is made of comes first.
func (j *joiner) prepend(block, to int) {
	j.into[block] = to
	j.behind[block], j.first[to] = j.first[to], j.first[block]
	j.ahead[to], j.ways[to], j.args[to] = j.ahead[block], j.ways[block], j.args[block]
	j.full[to] = j.full[to] || j.full[block]
	if block == j.entry {
		j.entry = to
	}
}

// meet tells whether some block is ahead both of a block and of the one that this jumps to: of that block a phi could have one argument alone. It must end in a branch: so it was put into none.
func (j *joiner) meet(block, to int) bool {
	for _, b := range j.ahead[block] {
		t := j.ends[b]
		if t.Kind == api.TermBranch && (j.now(t.To[0]) == to || j.now(t.To[1]) == to) {
			return true
		}
	}
	return false
}

// handOn gives the phis of a block for each block ahead of an empty one, which jumps there and goes, what they had for that. As nothing is set in it, that is set wherever it is come from.
func (j *joiner) handOn(block, to int) {
	args := j.args[to]
	at := args[block]
	delete(args, block)
	for _, b := range j.ahead[block] {
		if j.stays(b) {
			args[b] = at
		}
	}
}

// pass lets all that leads to an empty block lead to the one that it jumps to. The shorter one of both lists of blocks ahead is gone through, so that none is gone through too often.
func (j *joiner) pass(block, to int) {
	j.into[block] = to
	few, many := j.ahead[block], j.ahead[to]
	if len(few) > len(many) {
		few, many = many, few
	}
	j.ways[to] += j.ways[block] - 1
	for _, b := range few {
		switch {
		case !j.stays(b):
		case j.leadsOneWay(b):
			j.ends[b] = jumpTo(to)
			j.ways[to]--
			j.waiting = append(j.waiting, b)
		default:
			many = append(many, b)
		}
	}
	j.ahead[to] = many
}

// leadsOneWay tells whether a block ends in a branch both ways of which lead to one block by now.
func (j *joiner) leadsOneWay(block int) bool {
	t := j.ends[block]
	return t.Kind == api.TermBranch && j.now(t.To[0]) == j.now(t.To[1])
}
