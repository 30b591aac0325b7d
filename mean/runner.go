package mean

import "smithy/api"

// giveUp is thrown where a run can't go on.
type giveUp struct {
	end  api.End
	trap api.Trap
}

func stop(end api.End) {
	panic(giveUp{end: end})
}

func stopBy(trap api.Trap) {
	panic(giveUp{end: api.Trapped, trap: trap})
}

// runner runs a checked tree. Calls, and nodes that are gone through, stand in rows of its own: calls may live in one another as deep as is handed in, and operators be nested as deep as a row of them is long, which Go's own stack would not bear.
type runner struct {
	nodes  []api.Node
	funcs  []api.Func
	info   api.Info
	frames []frame
	steps  int // how many there may be
	depth  int // how many calls may live at once
	calls  []call
	begun  []begun
	words  []uint64 // reckoned, and still to be taken
	trace  api.Trace
}

// frame is how the words of a function's locals are laid out in each call of it.
type frame struct {
	places []int // of each local that of its first word
	words  int
}

// call is one that lives.
type call struct {
	function int
	begun    int // how many nodes were, ahead of its own
	locals   []uint64
}

// begun is a node that is gone through: all kids ahead of the next one have been.
type begun struct {
	node, next int
}

func newRunner(t api.Tree, info api.Info, steps, depth int) *runner {
	r := &runner{nodes: t.Nodes, funcs: t.Funcs, info: info, steps: steps, depth: depth}
	for _, locals := range info.Locals {
		r.frames = append(r.frames, laidOut(locals))
	}
	return r
}

func laidOut(locals []api.Local) frame {
	f := frame{places: make([]int, len(locals))}
	for i, l := range locals {
		f.places[i] = f.words
		f.words += max(l.Size, 1)
	}
	return f
}

// run goes on till the first call has ended.
func (r *runner) run(f int, args []uint64) {
	r.beginCall(f, args)
	for len(r.calls) > 0 {
		r.goOn()
	}
	r.trace.End, r.trace.Value = api.Told, r.take()
}

// goOn goes from the innermost node into its next kid, or to its end.
func (r *runner) goOn() {
	last := len(r.begun) - 1
	if last < r.now().begun {
		// Behind its last statement a function tells 0.
		r.put(0)
		r.endCall()
		return
	}
	i := r.begun[last].node
	if kid := r.next(&r.begun[last]); kid < len(r.nodes[i].Kids) {
		r.begin(r.nodes[i].Kids[kid])
	} else {
		r.end(i)
	}
}

// begin goes into a node; one that is reckoned on the spot has ended with that.
func (r *runner) begin(i int) {
	switch n := &r.nodes[i]; n.Kind {
	case api.NodeLit:
		r.put(n.Bits)
	case api.NodeName:
		r.put(r.local(i)[0])
	default:
		r.begun = append(r.begun, begun{node: i})
	}
}

// end does what is left to do of the innermost node behind its kids.
func (r *runner) end(i int) {
	if r.info.Types[i] == api.NoType {
		r.leave(r.do(i))
		return
	}
	// A call's own nodes stand from here on, and the word it tells is that of this node.
	r.drop()
	r.reckon(i)
}

func (r *runner) drop() {
	r.begun = r.begun[:len(r.begun)-1]
}

func (r *runner) now() *call { return &r.calls[len(r.calls)-1] }

func (r *runner) beginCall(f int, args []uint64) {
	if len(r.calls) >= r.depth {
		stop(api.Deep)
	}
	r.step()
	locals := make([]uint64, r.frames[f].words)
	copy(locals, args)
	r.calls = append(r.calls, call{function: f, begun: len(r.begun), locals: locals})
	r.trace.Depth = max(r.trace.Depth, len(r.calls))
	r.begin(r.funcs[f].Body)
}

// endCall ends the innermost one; the word that it tells was put.
func (r *runner) endCall() {
	r.begun = r.begun[:r.now().begun]
	r.calls = r.calls[:len(r.calls)-1]
}

func (r *runner) step() {
	if r.trace.Steps >= r.steps {
		stop(api.Steps)
	}
	r.trace.Steps++
}

func (r *runner) put(word uint64) {
	r.words = append(r.words, word)
}

func (r *runner) take() uint64 {
	last := len(r.words) - 1
	word := r.words[last]
	r.words = r.words[:last]
	return word
}

// local is the words of what a node's name stands for: a variable's one, or all elements of an array.
func (r *runner) local(i int) []uint64 {
	now := r.now()
	number := r.info.Means[i]
	return now.locals[r.frames[now.function].places[number]:][:max(r.info.Locals[now.function][number].Size, 1)]
}

// element is where the one of an array stands that an index says.
func (r *runner) element(i int, index uint64) *uint64 {
	array := r.local(i)
	// As a word, an index below 0 is greater than any size.
	if index >= uint64(len(array)) {
		stopBy(api.TrapIndex)
	}
	return &array[index]
}
