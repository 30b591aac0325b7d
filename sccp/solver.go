package sccp

import (
	"slices"

	"smithy/api"
	"smithy/shape"
)

// solver raises facts, from none at all on, till they are above what they make of themselves. Since it raises them no further than that, they are the least.
type solver struct {
	*view
	uses  [][]use // of each variable
	edges []edge  // in the facts, and not gone along yet
	risen []int   // variables whose cells have risen, of which their uses do not know yet
}

// edge is one of the two of a block's end.
type edge struct {
	from, side int
}

func newSolver(g api.Graph) *solver {
	none := api.Facts{
		Cells:   make([]api.Cell, len(g.Vars)),
		Reached: make([]bool, len(g.Blocks)),
		Edges:   make([][2]bool, len(g.Blocks)),
	}
	return &solver{view: viewOf(g, none), uses: usesOf(g)}
}

func (s *solver) begin() {
	for _, v := range s.g.Params {
		s.raise(v, varying())
	}
	s.enter(0)
}

// settle looks at what waits, till nothing does. Each edge waits once, and each variable twice at most: so it takes no longer than going through the graph a few times does.
func (s *solver) settle() {
	follow, tell := s.follow, s.tell
	for lookAtLast(&s.edges, follow) || lookAtLast(&s.risen, tell) {
	}
}

// lookAtLast takes the last one off what waits, and looks at it; it is false, if nothing waits.
func lookAtLast[T any](waiting *[]T, look func(T)) bool {
	last := len(*waiting) - 1
	if last < 0 {
		return false
	}
	one := (*waiting)[last]
	*waiting = (*waiting)[:last]
	look(one)
	return true
}

// follow goes along an edge. A phi meets this edge's argument alone: what it is already has met the others.
func (s *solver) follow(e edge) {
	to := s.g.Blocks[e.from].Term.To[e.side]
	place, _ := slices.BinarySearch(s.ahead[to], e.from)
	for _, x := range phis(s.g.Blocks[to]) {
		s.raise(x.Dst, s.facts.Cells[x.Args[place]])
	}
	if !s.facts.Reached[to] {
		s.enter(to)
	}
}

// enter reaches a block.
func (s *solver) enter(block int) {
	s.facts.Reached[block] = true
	for _, x := range s.g.Blocks[block].Ins {
		if shape.Sets(x) && x.Kind != api.InsPhi {
			s.raise(x.Dst, s.made(x))
		}
	}
	s.leave(block)
}

// leave puts the edges into the facts that a block's end makes by now.
func (s *solver) leave(block int) {
	for side, is := range s.leads(s.g.Blocks[block].Term) {
		if is && !s.facts.Edges[block][side] {
			s.facts.Edges[block][side] = true
			s.edges = append(s.edges, edge{block, side})
		}
	}
}

// raise makes a variable's cell one that is not below another one, either.
func (s *solver) raise(v int, c api.Cell) {
	if c = Meet(s.facts.Cells[v], c); c != s.facts.Cells[v] {
		s.facts.Cells[v] = c
		s.risen = append(s.risen, v)
	}
}

// tell goes through the uses of a variable that has risen.
func (s *solver) tell(v int) {
	for _, u := range s.uses[v] {
		if s.facts.Reached[u.block] {
			s.use(u, s.facts.Cells[v])
		}
	}
}

// use makes anew what hangs on a variable whose cell is c by now.
func (s *solver) use(u use, c api.Cell) {
	ins := s.g.Blocks[u.block].Ins
	switch {
	case u.ins == len(ins):
		s.leave(u.block)
	case ins[u.ins].Kind != api.InsPhi:
		s.raise(ins[u.ins].Dst, s.made(ins[u.ins]))
	case s.comes(s.ahead[u.block][u.arg], u.block):
		s.raise(ins[u.ins].Dst, c)
	}
}
