package run

import (
	"slices"

	"smithy/api"
	"smithy/graph"
)

// runner runs a right program.
type runner struct {
	program []api.Graph
	steps   int // how many there may be
	depth   int // how many calls may live at once
	called  []called
	calls   []call
	kept    []setting
	rows    []uint64 // elements of arrays
	words   []uint64 // read, and still to be set: all of them are read ahead of the first one that is set
	trace   api.Trace
}

// called is what a run needs to know of a graph as soon as it is called.
type called struct {
	ahead  [][]int
	newest []int // of each cell the number of the newest of its settings that are kept, counted from 1; 0 is none
}

// call is one that lives.
type call struct {
	graph, block int
	next         int // instructions of the block ahead of this one are done
	kept, rows   int // how many settings and elements there were, ahead of its own
}

// run goes on with the last one of the calls that live, till the first one has told its word, or the run can't go on.
func (r *runner) run(f int, args []uint64) {
	if !r.begin(f, args) {
		return
	}
calls:
	for {
		now := r.now()
		block := &r.program[now.graph].Blocks[now.block]
		for now.next < len(block.Ins) {
			x := &block.Ins[now.next]
			now.next++
			if x.Kind != api.InsCall {
				r.do(x)
				continue
			}
			if !r.begin(x.Ref, r.read(x.Args)) {
				break calls
			}
			continue calls
		}
		if !r.end(&block.Term) {
			break calls
		}
	}
}

func (r *runner) now() *call { return &r.calls[len(r.calls)-1] }

// begin makes a call; it tells whether the run goes on.
func (r *runner) begin(f int, args []uint64) bool {
	if len(r.calls) >= r.depth {
		return r.stop(api.Deep)
	}
	g := &r.program[f]
	if r.called[f].newest == nil {
		r.called[f] = called{ahead: graph.Ahead(*g), newest: make([]int, len(g.Vars)+len(g.Arrays))}
	}
	r.calls = append(r.calls, call{graph: f, kept: len(r.kept), rows: len(r.rows)})
	r.trace.Depth = max(r.trace.Depth, len(r.calls))
	for i, v := range g.Params {
		r.set(v, args[i])
	}
	return r.step()
}

// end does what a block's end says; it tells whether the run goes on.
func (r *runner) end(t *api.Term) bool {
	switch t.Kind {
	case api.TermJump:
		return r.enter(t.To[0])
	case api.TermBranch:
		if r.get(t.Arg) == 1 {
			return r.enter(t.To[0])
		}
		return r.enter(t.To[1])
	case api.TermReturn:
		return r.tell(r.get(t.Arg))
	}
	r.trace.Trap = t.Trap
	return r.stop(api.Trapped)
}

// tell ends the last call, and tells its word to the one that made it.
func (r *runner) tell(word uint64) bool {
	r.forget()
	r.calls = r.calls[:len(r.calls)-1]
	if len(r.calls) == 0 {
		r.trace.Value = word
		return r.stop(api.Told)
	}
	now := r.now()
	r.set(r.program[now.graph].Blocks[now.block].Ins[now.next-1].Dst, word)
	return true
}

// enter goes from the block in which the last call is into another one, and sets that one's phis.
func (r *runner) enter(to int) bool {
	if !r.step() {
		return false
	}
	now := r.now()
	from := now.block
	now.block = to
	now.next = r.setPhis(from)
	return true
}

// setPhis sets the phis at the head of the block that was come into, all at once, and tells how many there are.
func (r *runner) setPhis(from int) int {
	now := r.now()
	ins := r.program[now.graph].Blocks[now.block].Ins
	if len(ins) == 0 || ins[0].Kind != api.InsPhi {
		return 0
	}
	place, _ := slices.BinarySearch(r.called[now.graph].ahead[now.block], from)
	r.words = r.words[:0]
	for i := 0; i < len(ins) && ins[i].Kind == api.InsPhi; i++ {
		r.words = append(r.words, r.get(ins[i].Args[place]))
	}
	for i, word := range r.words {
		r.set(ins[i].Dst, word)
	}
	return len(r.words)
}

// step makes one, or ends the run, if none is left.
func (r *runner) step() bool {
	if r.trace.Steps >= r.steps {
		return r.stop(api.Steps)
	}
	r.trace.Steps++
	return true
}

// stop ends the run, so that it does not go on.
func (r *runner) stop(end api.End) bool {
	r.trace.End = end
	return false
}
