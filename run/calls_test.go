package run_test

import (
	"runtime"
	"slices"
	"testing"

	"smithy/api"
)

// Graphs are called by their places, further on or further back.
func TestCallsByPlaces(t *testing.T) {
	p := []api.Graph{
		numbers(1, block(back(1), call(3, 1, 0), show(1), call(1, 2, 1), show(2))),
		numbers(1, block(back(1), constant(1, 100), op(api.OpAdd, 1, 1, 0))),
		numbers(1, block(back(1), constant(1, 200), op(api.OpAdd, 1, 1, 0))),
		numbers(1, block(back(2), call(2, 1, 0), call(1, 2, 1))),
	}
	wantRun(t, "further on, and back", p, words(5), many, many, told(305, 5, 3, whole(305, 405)...))
	// Each graph may be the first one that is called.
	for f, want := range []api.Trace{told(305, 5, 3, whole(305, 405)...), told(105, 1, 1), told(205, 1, 1), told(305, 3, 2)} {
		if trace := ran(t, p, f, words(5), many, many); !same(trace, want) {
			t.Errorf("of the graph %d: %v; want %v", f, trace, want)
		}
	}
	// The last one of as many as there may be.
	p = slices.Repeat([]api.Graph{numbers(1, block(trap(1)))}, api.MaxFuncs)
	p[0] = numbers(1, block(back(1), call(api.MaxFuncs-1, 1, 0)))
	p[api.MaxFuncs-1] = numbers(1, block(back(0)))
	wantRun(t, "the last one", p, words(5), 2, 2, told(5, 2, 2))
}

// evenOdd are two graphs that call one another.
func evenOdd() []api.Graph {
	one := func(other int, atNought uint64) api.Graph {
		return numbers(1,
			block(branch(truth, 1, 2), op(api.OpEq, truth, 0, 8)),
			block(back(1), constant(1, atNought)),
			block(back(1), constant(2, 1), op(api.OpSub, 2, 0, 2), call(other, 1, 2)))
	}
	return []api.Graph{one(1, 1), one(0, 0)}
}

func TestCallsOfOneAnother(t *testing.T) {
	for n := range 9 {
		wantRun(t, "whether it is even", evenOdd(), words(n), many, n+1, told(uint64(1-n%2), 2*n+2, n+1))
		wantRun(t, "a call too many", evenOdd(), words(n), many, n, tooDeep(2*n, n))
	}
}

// Arguments are those of the call that calls, in their order, each for its own parameter.
func TestArguments(t *testing.T) {
	shows := numbers(8, block(back(0), show(0), show(1), show(2), show(3), show(4), show(5), show(6), show(7)))
	shows.Params = []int{3, 1, 2, 0, 7, 6, 5, 4}
	p := []api.Graph{numbers(8, block(back(0), call(1, 8, 0, 1, 2, 3, 4, 5, 6, 7), call(1, 8, 7, 7, 0, 0, 8, 8, 1, 1))), shows}
	wantRun(t, "eight arguments", p, words(10, 11, 12, 13, 14, 15, 16, 17), many, many,
		told(10, 3, 2, whole(13, 11, 12, 10, 17, 16, 15, 14, 10, 17, 10, 17, 11, 11, 13, 13)...))
	// A graph that calls itself with its parameters turned: all are read ahead of the first one that is set.
	turned := numbers(3,
		block(branch(truth, 1, 2), show(0), show(1), op(api.OpEq, truth, 2, 8)),
		block(back(0)),
		block(back(0), constant(3, 1), op(api.OpSub, 2, 2, 3), call(0, 3, 1, 0, 2), show(0), show(1)))
	wantRun(t, "turned", []api.Graph{turned}, words(5, 6, 2), many, many, told(5, 6, 3, whole(5, 6, 6, 5, 5, 6, 6, 5, 5, 6)...))
	// None at all.
	p = []api.Graph{numbers(0, block(back(0), call(1, 0))), numbers(0, block(back(0), constant(0, 3)))}
	wantRun(t, "no arguments", p, nil, many, many, told(3, 2, 2))
	// Of each type.
	for _, u := range types {
		for _, w := range wordsOf(u) {
			p := []api.Graph{
				{Params: []int{0}, Result: u, Vars: []api.Type{u, u}, Blocks: []api.Block{block(back(1), call(1, 1, 0))}},
				{Params: []int{2}, Result: u, Vars: []api.Type{api.I64, u, u}, Blocks: []api.Block{block(back(2), show(2), show(1), show(0))}},
			}
			wantRun(t, "a type", p, []uint64{w}, 2, 2, told(w, 2, 2, api.Show{Type: u, Bits: w}, api.Show{Type: u}, api.Show{Type: api.I64}))
		}
	}
}

// What a call tells is its caller's Dst, also where that is one of the arguments; all else of the caller stays.
func TestWhatACallTells(t *testing.T) {
	double := numbers(1, block(back(3), op(api.OpAdd, 3, 0, 0), constant(0, 99), constant(1, 98), constant(2, 97), constant(7, 96)))
	p := []api.Graph{numbers(2, block(back(0), constant(2, 7), call(1, 0, 0), show(0), show(1), show(2), show(3), show(7), call(1, 1, 0), show(0), show(1), call(1, 7, 1), show(7), show(3))), double}
	wantRun(t, "a caller's variables", p, words(5, 6), many, many, told(10, 4, 2, whole(10, 6, 7, 0, 0, 10, 20, 40, 0)...))
	// A call that ends in another block than it began in.
	p[1] = numbers(1, block(jump(2)), block(back(1), constant(1, 4)), block(branch(truth, 1, 3)), block(jump(1), constant(1, 3)))
	wantRun(t, "a call of blocks", p[:2], words(5, 6), many, many, told(4, 1+3*4, 2, whole(4, 6, 7, 0, 0, 4, 4, 4, 0)...))
}

// Variables are each call's own, 0 as it begins, whatever calls of the same graph have set.
func TestVariablesOfCalls(t *testing.T) {
	// Shows the variable 1, sets it to its parameter, calls itself with one less, shows it again.
	g := numbers(1,
		block(branch(truth, 1, 2), show(1), copyOf(1, 0), constant(2, 1), op(api.OpLe, truth, 0, 2)),
		block(jump(3)),
		block(jump(3), op(api.OpSub, 3, 0, 2), call(0, 4, 3)),
		block(back(0), show(1), show(4)))
	wantRun(t, "within one another", []api.Graph{g}, words(4), many, many, told(4, 12, 4, whole(0, 0, 0, 0, 1, 0, 2, 1, 3, 2, 4, 3)...))
	// One behind the other, made in a loop.
	p := []api.Graph{
		numbers(1, block(jump(1)), block(branch(truth, 2, 3), op(api.OpLt, truth, 1, 0)), block(jump(1), call(1, 2, 1), constant(3, 1), op(api.OpAdd, 1, 1, 3)), block(back(1))),
		numbers(1, block(back(1), show(1), show(2), show(0), constant(1, 5), constant(2, 6), copyOf(0, 1))),
	}
	wantRun(t, "behind one another", p, words(3), many, many, told(3, 1+2*3+2+3, 2, whole(0, 0, 0, 0, 0, 1, 0, 0, 2)...))
	// A call sets what those further out have set, and what they have not, and they find their own.
	deep := numbers(2,
		block(branch(truth, 1, 2), show(2), show(3), constant(4, 1), op(api.OpAnd, 5, 0, 4), op(api.OpEq, truth, 5, 4)),
		block(jump(3), copyOf(2, 0)),
		block(jump(3), copyOf(3, 0)),
		block(branch(truth, 4, 5), op(api.OpEq, truth, 0, 1)),
		block(back(0), show(2), show(3)),
		block(back(0), op(api.OpSub, 6, 0, 4), call(0, 6, 6, 1), show(2), show(3)))
	wantRun(t, "by turns", []api.Graph{deep}, words(4, 1), many, many, told(4, 16, 4, whole(0, 0, 0, 0, 0, 0, 0, 0, 1, 0, 0, 2, 3, 0, 0, 4)...))
}

// down calls itself as often as its parameter says, and tells that number, counted on the way back.
func down() []api.Graph {
	return []api.Graph{numbers(1,
		block(branch(truth, 1, 2), op(api.OpEq, truth, 0, 8)),
		block(back(1)),
		block(back(1), constant(2, 1), op(api.OpSub, 3, 0, 2), call(0, 1, 3), op(api.OpAdd, 1, 1, 2)))}
}

func TestAMillionCallsAtOnce(t *testing.T) {
	const deep = 1000000
	wantRun(t, "a million", down(), words(deep-1), 2*deep, deep, told(deep-1, 2*deep, deep))
	wantRun(t, "a million, and all steps", down(), words(deep-1), 1<<40, 1<<40, told(deep-1, 2*deep, deep))
	wantRun(t, "one too many", down(), words(deep), 1<<40, deep, tooDeep(2*deep, deep))
	wantRun(t, "a step too few", down(), words(deep-1), 2*deep-1, deep, outOfSteps(2*deep-1, deep))
	wantRun(t, "for ever", down(), []uint64{minus(1)}, 1<<40, deep, tooDeep(2*deep, deep))
	wantRun(t, "two by turns", evenOdd(), words(deep), 1<<40, 1<<40, told(1, 2*deep+2, deep+1))
	// Each with elements of its own.
	g := down()[0]
	g.Blocks[2] = block(back(1), constant(2, 1), store(0, 2, 0), op(api.OpSub, 3, 0, 2), call(0, 1, 3), load(4, 0, 2), op(api.OpAdd, 1, 1, 4))
	wantRun(t, "with an array each", []api.Graph{g}, words(deep-1), 1<<40, deep, told(deep*(deep-1)/2, 2*deep, deep))
}

// A million calls, one behind the other, leave nothing.
func TestAMillionCallsInARow(t *testing.T) {
	const long = 1000000
	p := []api.Graph{
		numbers(1, block(jump(1), constant(3, 1)), block(branch(truth, 2, 3), op(api.OpLt, truth, 1, 0)), block(jump(1), call(1, 1, 1)), block(back(1))),
		numbers(1, block(back(1), constant(2, 1), load(1, 1, 2), op(api.OpAdd, 1, 1, 0), op(api.OpAdd, 1, 1, 2), store(1, 2, 1))),
	}
	var before, after runtime.MemStats
	runtime.ReadMemStats(&before)
	wantRun(t, "in a row", p, words(long), 1<<40, 2, told(long, 1+2*long+2+long, 2))
	runtime.ReadMemStats(&after)
	if taken := after.TotalAlloc - before.TotalAlloc; taken > 1<<20 {
		t.Errorf("%d calls in a row have taken %d bytes", long, taken)
	}
}

// A call takes as much room as it sets variables and arrays, however many its graph has: all of a million each would not go into any machine.
func TestDeepCallsOfGreatGraphs(t *testing.T) {
	const deep = 20000
	g := down()[0]
	g.Vars = append(g.Vars, slices.Repeat([]api.Type{api.I64}, api.MaxVars-len(g.Vars))...)
	g.Arrays = slices.Repeat([]api.Array{{Type: api.I64, Size: api.MaxArray}}, api.MaxVars)
	const v, a = api.MaxVars - 1, api.MaxVars - 1
	g.Blocks[2] = block(back(1), constant(2, 1), load(v, a, 2), store(a, 2, 0), op(api.OpSub, 3, 0, 2), call(0, 1, 3), op(api.OpAdd, 1, 1, v), load(v, a, 2), op(api.OpAdd, 1, 1, v), wipe(a-1))
	wantRun(t, "a great graph", []api.Graph{g}, words(deep-1), 1<<40, deep, told(deep*(deep-1)/2, 2*deep, deep))
	rows := numbers(1, block(jump(1)), block(branch(truth, 2, 3), op(api.OpLt, truth, 1, 0)), block(jump(1), call(1, 2, 1), constant(2, 1), op(api.OpAdd, 1, 1, 2)), block(back(1)))
	g.Blocks[2].Ins[4].Ref = 1
	wantRun(t, "a great graph in a row", []api.Graph{rows, g}, words(100), 1<<40, 101, told(100, 1+2*100+2+100*101, 101))
}
