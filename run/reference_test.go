package run_test

import (
	"slices"

	"smithy/api"
	"smithy/scalar"
)

// A second way of a run: calls are calls of its own, and all is done word by word as the document says it.

// slow is thrown where a run can't go on.
type slow struct {
	p            []api.Graph
	steps, depth int
	live         int
	trace        api.Trace
}

// frame is what a call has: what is not in its maps is 0.
type frame struct {
	g        api.Graph
	vars     map[int]uint64
	elements map[[2]int]uint64
}

func slowRun(p []api.Graph, f int, args []uint64, steps, depth int) (trace api.Trace) {
	s := &slow{p: p, steps: steps, depth: depth}
	defer func() {
		if thrown, ok := recover().(*slow); ok {
			trace = thrown.trace
		}
	}()
	word := s.call(f, args)
	s.trace.Value = word
	s.end(api.Told)
	return api.Trace{}
}

func (s *slow) end(e api.End) {
	s.trace.End = e
	panic(s)
}

func (s *slow) call(f int, args []uint64) uint64 {
	if s.live == s.depth {
		s.end(api.Deep)
	}
	s.live++
	s.trace.Depth = max(s.trace.Depth, s.live)
	now := frame{g: s.p[f], vars: map[int]uint64{}, elements: map[[2]int]uint64{}}
	for i, v := range now.g.Params {
		now.vars[v] = args[i]
	}
	from, at := -1, 0
	for {
		if s.trace.Steps == s.steps {
			s.end(api.Steps)
		}
		s.trace.Steps++
		s.block(now, from, at)
		e := now.g.Blocks[at].Term
		from = at
		switch e.Kind {
		case api.TermReturn:
			s.live--
			return now.vars[e.Arg]
		case api.TermTrap:
			s.trace.Trap = e.Trap
			s.end(api.Trapped)
		case api.TermJump:
			at = e.To[0]
		case api.TermBranch:
			at = e.To[1-now.vars[e.Arg]]
		}
	}
}

// place is where a block stands among those with an edge to another one.
func place(g api.Graph, from, to int) int {
	n := 0
	for i := range from {
		e := g.Blocks[i].Term
		if e.Kind == api.TermJump && e.To[0] == to || e.Kind == api.TermBranch && slices.Contains(e.To[:], to) {
			n++
		}
	}
	return n
}

func (s *slow) block(now frame, from, at int) {
	after := map[int]uint64{}
	for _, x := range now.g.Blocks[at].Ins {
		if x.Kind == api.InsPhi {
			after[x.Dst] = now.vars[x.Args[place(now.g, from, at)]]
		}
	}
	for v, word := range after {
		now.vars[v] = word
	}
	for _, x := range now.g.Blocks[at].Ins {
		s.do(now, x)
	}
}

func (s *slow) do(now frame, x api.Ins) {
	var args []uint64
	var of []api.Type
	for _, v := range x.Args {
		args, of = append(args, now.vars[v]), append(of, now.g.Vars[v])
	}
	switch x.Kind {
	case api.InsConst:
		now.vars[x.Dst] = x.Bits
	case api.InsCopy:
		now.vars[x.Dst] = args[0]
	case api.InsOp:
		if len(args) == 1 {
			now.vars[x.Dst], _ = scalar.One(x.Op, of[0], args[0])
		} else {
			now.vars[x.Dst], _ = scalar.Two(x.Op, of[0], args[0], args[1])
		}
	case api.InsCast:
		now.vars[x.Dst], _ = scalar.Turn(now.g.Vars[x.Dst], of[0], args[0])
	case api.InsLoad:
		now.vars[x.Dst] = now.elements[[2]int{x.Ref, int(args[0])}]
	case api.InsStore:
		if i := int(args[0]); i >= 0 && i < now.g.Arrays[x.Ref].Size {
			now.elements[[2]int{x.Ref, i}] = args[1]
		}
	case api.InsClear:
		for i := range now.g.Arrays[x.Ref].Size {
			now.elements[[2]int{x.Ref, i}] = 0
		}
	case api.InsCall:
		now.vars[x.Dst] = s.call(x.Ref, args)
	case api.InsPrint:
		s.trace.Shows = append(s.trace.Shows, api.Show{Type: of[0], Bits: args[0]})
	}
}
