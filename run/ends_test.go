package run_test

import (
	"math"
	"testing"

	"smithy/api"
)

// Each word of each type is told, by the first call and by one within it.
func TestTold(t *testing.T) {
	for _, u := range types {
		tells := api.Graph{Params: []int{0}, Result: u, Vars: []api.Type{u, u}, Blocks: []api.Block{block(back(0), show(0))}}
		asks := api.Graph{Params: []int{0}, Result: u, Vars: []api.Type{u, u}, Blocks: []api.Block{block(back(1), call(1, 1, 0), show(1))}}
		for _, w := range wordsOf(u) {
			shown := api.Show{Type: u, Bits: w}
			wantRun(t, "told", []api.Graph{tells}, []uint64{w}, 1, 1, told(w, 1, 1, shown))
			wantRun(t, "told within", []api.Graph{asks, tells}, []uint64{w}, 2, 2, told(w, 2, 2, shown, shown))
		}
	}
}

// Behind a block's trap nothing is done, in whichever call that is; the value told is 0.
func TestTrapped(t *testing.T) {
	for n := api.TrapZero; n <= api.TrapIndex; n++ {
		wantRun(t, "in the entry", []api.Graph{numbers(1, block(trap(n), show(0)), block(back(0), show(0)))}, words(5), many, many, trapped(n, 1, 1, whole(5)...))
		later := numbers(1, block(jump(2), show(0)), block(trap(n), show(2)), block(jump(1), show(1)))
		wantRun(t, "further on", []api.Graph{later}, words(5), many, many, trapped(n, 3, 1, whole(5, 0, 0)...))
		within := []api.Graph{
			numbers(1, block(back(1), show(0), call(1, 1, 0), show(0))),
			numbers(1, block(jump(1), call(2, 2, 0), show(2)), block(back(1), call(2, 2, 2), show(2))),
			numbers(1, block(branch(truth, 1, 2), constant(1, 1), op(api.OpEq, truth, 0, 1)), block(trap(n), show(1)), block(back(1))),
		}
		wantRun(t, "within two calls", within, words(5), many, many, trapped(n, 7, 3, whole(5, 1, 1)...))
	}
}

// Where a trap and a limit meet: the block that traps has been entered.
func TestTrapAtTheLastStep(t *testing.T) {
	p := []api.Graph{numbers(0, block(jump(1)), block(trap(api.TrapRange)))}
	wantRun(t, "a step less", p, nil, 1, 1, outOfSteps(1, 1))
	wantRun(t, "just enough", p, nil, 2, 1, trapped(api.TrapRange, 2, 1))
}

// counter counts i from 0 to its parameter, and shows each.
func counter() api.Graph {
	return numbers(1,
		block(jump(1)),
		block(branch(truth, 2, 3), op(api.OpLt, truth, 1, 0)),
		block(jump(1), show(1), constant(2, 1), op(api.OpAdd, 1, 1, 2)),
		block(back(1), constant(2, 99), show(2)))
}

// Each block that is entered makes a step, entered anew or not, whatever stands in it.
func TestStepsOfBlocks(t *testing.T) {
	p := []api.Graph{counter()}
	for n := range 5 {
		var rising []int
		for i := range n {
			rising = append(rising, i)
		}
		all := 2*n + 3
		for _, steps := range []int{all, all + 1, many, math.MaxInt} {
			wantRun(t, "enough", p, words(n), steps, 1, told(uint64(n), all, 1, whole(append(rising, 99)...)...))
		}
		for steps := range all {
			wantRun(t, "too few", p, words(n), steps, 1, outOfSteps(steps, 1, whole(rising[:max(0, steps-1)/2]...)...))
		}
	}
	const long = 1000
	empty := numbers(0, block(jump(1)))
	for i := range long {
		empty.Blocks = append(empty.Blocks, block(jump(i+2)))
	}
	empty.Blocks = append(empty.Blocks, block(back(0)))
	wantRun(t, "a row of blocks", []api.Graph{empty}, nil, many, 1, told(0, long+2, 1))
	wantRun(t, "a row of blocks", []api.Graph{empty}, nil, long+1, 1, outOfSteps(long+1, 1))
	wantRun(t, "a circle of blocks", []api.Graph{numbers(0, block(jump(2)), block(jump(2)), block(jump(1)))}, nil, 12345, 1, outOfSteps(12345, 1))
	var busy []api.Ins
	for range long {
		busy = append(busy, show(0))
	}
	busyTrace := ran(t, []api.Graph{numbers(0, block(back(0), busy...))}, 0, nil, 1, 1)
	if busyTrace.End != api.Told || busyTrace.Steps != 1 || len(busyTrace.Shows) != long {
		t.Errorf("a long block: %v, %d steps, %d shows", busyTrace.End, busyTrace.Steps, len(busyTrace.Shows))
	}
}

// twice calls a graph that shows its argument, twice, and shows something between.
func twice() []api.Graph {
	return []api.Graph{
		numbers(1, block(back(1), show(0), call(1, 1, 0), show(0), call(1, 1, 1), show(1))),
		numbers(1, block(back(0), constant(1, 10), op(api.OpAdd, 0, 0, 1), show(0))),
	}
}

// The entry of each call makes a step; the block in which the call stands is not entered again.
func TestStepsOfCalls(t *testing.T) {
	for steps, want := range []api.Trace{
		outOfSteps(0, 1), outOfSteps(1, 2, whole(5)...), outOfSteps(2, 2, whole(5, 15, 5)...), told(25, 3, 2, whole(5, 15, 5, 25, 25)...), told(25, 3, 2, whole(5, 15, 5, 25, 25)...),
	} {
		wantRun(t, "two calls", twice(), words(5), steps, 2, want)
		wantRun(t, "two calls", twice(), words(5), steps, many, want)
	}
}

// A call lives from where it is made: also one whose entry is not entered, as no step is left.
func TestDepth(t *testing.T) {
	wantRun(t, "one too many", twice(), words(5), many, 1, tooDeep(1, 1, whole(5)...))
	wantRun(t, "none at all", twice(), words(5), many, 0, tooDeep(0, 0))
	endless := []api.Graph{numbers(1, block(back(0), show(0), constant(1, 1), op(api.OpAdd, 0, 0, 1), call(0, 0, 0), show(0)))}
	for steps := range 6 {
		for depth := range 6 {
			// A call is asked for ahead of its step, also where no step is left.
			want := outOfSteps(steps, steps+1)
			if depth <= steps {
				want = tooDeep(depth, depth)
			}
			for i := range want.Steps {
				want.Shows = append(want.Shows, whole(i)...)
			}
			wantRun(t, "endless calls", endless, words(0), steps, depth, want)
		}
	}
	// Depth tells how many lived at once at the most, also when they are fewer again.
	down := numbers(1,
		block(branch(truth, 1, 2), op(api.OpEq, truth, 0, 1)),
		block(back(0)),
		block(back(0), constant(1, 1), op(api.OpSub, 2, 0, 1), call(1, 0, 2)))
	rows := numbers(1, block(back(0), constant(1, 3), call(1, 2, 1), constant(1, 1), call(1, 2, 1), call(1, 2, 0)))
	wantRun(t, "deep, then less deep", []api.Graph{rows, down}, words(0), many, many, told(0, 1+8+4+2, 5))
	wantRun(t, "just deep enough", []api.Graph{rows, down}, words(0), many, 5, told(0, 1+8+4+2, 5))
	wantRun(t, "a call too many", []api.Graph{rows, down}, words(0), many, 4, tooDeep(1+6, 4))
	wantRun(t, "a call too many, later on", []api.Graph{rows, down}, words(4), many, 5, tooDeep(1+8+4+8, 5))
}

// No steps and no depth are no error, nor as many as there are.
func TestLeastAndMost(t *testing.T) {
	p := []api.Graph{plain()}
	wantRun(t, "neither", p, words(7), 0, 0, tooDeep(0, 0))
	wantRun(t, "no steps", p, words(7), 0, math.MaxInt, outOfSteps(0, 1))
	wantRun(t, "no depth", p, words(7), math.MaxInt, 0, tooDeep(0, 0))
	wantRun(t, "all", p, words(7), math.MaxInt, math.MaxInt, told(7, 1, 1, whole(7)...))
}

func TestBranch(t *testing.T) {
	g := api.Graph{Params: []int{1}, Result: api.I64, Vars: []api.Type{api.I64, api.Bool}, Blocks: []api.Block{
		block(branch(1, 1, 2)), block(back(0), constant(0, 10)), block(back(0), constant(0, 20)),
	}}
	wantRun(t, "true", []api.Graph{g}, words(1), 2, 1, told(10, 2, 1))
	wantRun(t, "false", []api.Graph{g}, words(0), 2, 1, told(20, 2, 1))
	g.Blocks[0].Term.To = [2]int{2, 1}
	wantRun(t, "true, turned", []api.Graph{g}, words(1), 2, 1, told(20, 2, 1))
	wantRun(t, "false, turned", []api.Graph{g}, words(0), 2, 1, told(10, 2, 1))
	g.Blocks[0].Term.To = [2]int{2, 2}
	wantRun(t, "one block", []api.Graph{g}, words(1), 2, 1, told(20, 2, 1))
	wantRun(t, "one block", []api.Graph{g}, words(0), 2, 1, told(20, 2, 1))
	// What was not set is false.
	g.Params = nil
	g.Blocks[0].Term.To = [2]int{1, 2}
	wantRun(t, "not set", []api.Graph{g}, nil, 2, 1, told(20, 2, 1))
}
