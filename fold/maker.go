package fold

import (
	"slices"

	"smithy/api"
	"smithy/graph"
	"smithy/shape"
)

// maker makes blocks of a graph anew by what is known of its variables. Which blocks and edges the facts have is not asked: the ways that are left are among them.
type maker struct {
	g     api.Graph
	cells []api.Cell
	ahead [][]int     // of each block, as it was
	bare  []api.Block // each block's end alone, a jump where the branch is known; To as it was
	stay  []int       // the blocks that are reached by these ends, rising
	place []int       // where each block stands now
}

// gone is the place of a block that does not stay.
const gone = -1

func newMaker(g api.Graph, cells []api.Cell) *maker {
	m := &maker{g: g, cells: cells, ahead: graph.Ahead(g)}
	m.bare = make([]api.Block, len(g.Blocks))
	for i, b := range g.Blocks {
		m.bare[i].Term = m.settled(b.Term)
	}
	m.stay = graph.Order(api.Graph{Blocks: m.bare})
	slices.Sort(m.stay)
	m.place = slices.Repeat([]int{gone}, len(g.Blocks))
	for i, was := range m.stay {
		m.place[was] = i
	}
	return m
}

// settled is an end; a branch whose Arg is known leads one way alone.
func (m *maker) settled(t api.Term) api.Term {
	if t.Kind != api.TermBranch || !m.isKnown(t.Arg) {
		return t
	}
	to := t.To[0]
	if m.cells[t.Arg].Bits == 0 {
		to = t.To[1]
	}
	return api.Term{Kind: api.TermJump, To: [2]int{to, 0}}
}

func (m *maker) isKnown(v int) bool {
	return m.cells[v].Kind == api.Known
}

// block is one that stays, as it is now. Its phis that stay come first: what the others have become may not stand among them.
func (m *maker) block(was int) api.Block {
	old := m.g.Blocks[was].Ins
	ins := make([]api.Ins, 0, len(old))
	renew := m.renewal(was)
	for _, x := range old {
		if m.isPhiStill(x) {
			ins = append(ins, renew(x))
		}
	}
	for _, x := range old {
		if !m.isPhiStill(x) {
			ins = append(ins, m.written(x))
		}
	}
	return api.Block{Ins: ins, Term: m.led(m.bare[was].Term)}
}

func (m *maker) isPhiStill(x api.Ins) bool {
	return x.Kind == api.InsPhi && !m.isKnown(x.Dst)
}

// renewal makes phis of a block anew, by which of the blocks that stood ahead of it still do. As these keep their order, so do the arguments.
func (m *maker) renewal(was int) func(x api.Ins) api.Ins {
	ahead := m.ahead[was]
	var still []int
	for i := range len(ahead) {
		if m.leads(ahead[i], was) {
			still = append(still, i)
		}
	}
	return func(x api.Ins) api.Ins {
		args := make([]int, len(still))
		for i := range len(still) {
			args[i] = x.Args[still[i]]
		}
		x.Args = args
		return x
	}
}

// leads tells whether a block that stood ahead of another one stays, and leads there still.
func (m *maker) leads(from, to int) bool {
	return m.place[from] != gone && slices.Contains(graph.Next(m.bare[from]), to)
}

// written is an instruction, or, if it sets what is known, that word. What prints, stores or clears sets nothing, whatever its Dst says.
func (m *maker) written(x api.Ins) api.Ins {
	if shape.Sets(x) && m.isKnown(x.Dst) {
		return api.Ins{Kind: api.InsConst, Dst: x.Dst, Bits: m.cells[x.Dst].Bits}
	}
	x.Args = slices.Clone(x.Args)
	return x
}

// led is an end that leads to blocks where they stand now. Where it names none its To is 0, which is the entry's place now as before.
func (m *maker) led(t api.Term) api.Term {
	for side, to := range t.To {
		t.To[side] = m.place[to]
	}
	return t
}
