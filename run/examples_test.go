package run_test

import (
	"testing"

	"smithy/api"
)

// The chapter's examples, by their numbers.
func TestExamples(t *testing.T) {
	// 1
	p := []api.Graph{numbers(1, block(back(0)))}
	wantRun(t, "a graph that returns its parameter", p, words(7), 1, 1, told(7, 1, 1))
	wantRun(t, "with steps 0", p, words(7), 0, 1, outOfSteps(0, 1))
	wantRun(t, "with depth 0", p, words(7), 1, 0, tooDeep(0, 0))
	// 2
	p = []api.Graph{numbers(1, block(jump(1)), block(jump(1), show(0)))}
	wantRun(t, "a block that jumps to itself", p, words(7), 3, 1, outOfSteps(3, 1, whole(7, 7)...))
	// 3
	p = []api.Graph{numbers(1, block(back(0), call(0, 1, 0)))}
	wantRun(t, "a graph that calls itself", p, words(7), 10, 4, tooDeep(4, 4))
	// 4
	p = []api.Graph{numbers(0, block(trap(api.TrapZero), constant(0, 5), constant(1, 0), op(api.OpDiv, 2, 0, 1), show(2)))}
	wantRun(t, "a division by 0", p, nil, 1, 1, trapped(api.TrapZero, 1, 1, whole(0)...))
}

// fibonacci calls itself twice: three of its blocks are entered in each call that does, two in each that does not.
func fibonacci() []api.Graph {
	return []api.Graph{numbers(1,
		block(branch(truth, 1, 2), constant(1, 2), op(api.OpLt, truth, 0, 1)),
		block(back(0)),
		block(jump(3), constant(1, 1), op(api.OpSub, 2, 0, 1), call(0, 2, 2)),
		block(back(2), constant(1, 2), op(api.OpSub, 3, 0, 1), call(0, 3, 3), op(api.OpAdd, 2, 2, 3)))}
}

// The document's third example, as a graph.
func TestFibonacci(t *testing.T) {
	p := fibonacci()
	wantRun(t, "of 5", p, words(5), many, many, told(5, 8*2+7*3, 5))
	wantRun(t, "of 5 with 4 allowed", p, words(5), many, 4, tooDeep(4*2, 4))
	wantRun(t, "of 1", p, words(1), 2, 1, told(1, 2, 1))
	wantRun(t, "of 20", p, words(20), many, 20, told(6765, 10946*2+10945*3, 20))
}
