package run_test

import (
	"slices"
	"testing"

	"smithy/api"
	"smithy/graph"
)

func ends(t api.Trace) bool { return t.End == api.Told || t.End == api.Trapped }

// Programs without a pattern do what the second way says.
func TestRunsAsTheSecondWay(t *testing.T) {
	m := maker{odds: firstOdd}
	count := map[api.End]int{}
	shown, deep := 0, 0
	for range 20000 {
		c := m.next()
		if err, at := graph.Check(c.p); err != api.OK {
			t.Fatalf("%v: Check tells %d, %d", c.p, err, at)
		}
		steps, depth := m.below(60), m.below(7)
		trace, want := ran(t, c.p, c.f, c.args, steps, depth), slowRun(c.p, c.f, c.args, steps, depth)
		if !same(trace, want) {
			t.Fatalf("%v: of %d of %d with %d steps, depth %d: %v; want %v", c.p, c.f, c.args, steps, depth, trace, want)
		}
		count[trace.End]++
		if len(trace.Shows) > 2 {
			shown++
		}
		if trace.Depth > 2 {
			deep++
		}
	}
	for e := api.Told; e <= api.Deep; e++ {
		if count[e] < 500 {
			t.Errorf("%d ended with %d", count[e], e)
		}
	}
	if shown < 3000 || deep < 3000 {
		t.Errorf("%d showed something, %d were deep", shown, deep)
	}
}

// wantOnward asks that a run with more steps and a greater depth stays as it is, if it ended, and else begins as it was.
func wantOnward(t *testing.T, less, more api.Trace) {
	t.Helper()
	if ends(less) && !same(less, more) {
		t.Fatalf("%v became %v", less, more)
	}
	if len(more.Shows) < len(less.Shows) || !slices.Equal(more.Shows[:len(less.Shows)], less.Shows) || more.Steps < less.Steps || more.Depth < less.Depth {
		t.Fatalf("%v went on as %v", less, more)
	}
}

// P8.2: with more steps and a greater depth.
func TestMoreStepsAndDepth(t *testing.T) {
	m := maker{odds: firstOdd}
	wentOn, ended := 0, 0
	for range 6000 {
		c := m.next()
		with := func(steps, depth int) api.Trace { return ran(t, c.p, c.f, c.args, steps, depth) }
		steps, depth := m.below(40), m.below(6)
		less := with(steps, depth)
		wantOnward(t, less, with(steps+1, depth))
		wantOnward(t, less, with(steps, depth+1))
		wantOnward(t, less, with(steps+m.below(100), depth+m.below(9)))
		// Just what is missing lets it go on.
		switch less.End {
		case api.Steps:
			if more := with(steps+1, depth); less.Steps != steps || more.Steps != steps+1 {
				t.Fatalf("%v with %d steps, %v with one more", less, steps, more)
			}
			wentOn++
		case api.Deep:
			if more := with(steps, depth+1); less.Depth != depth || more.Depth != depth+1 {
				t.Fatalf("%v with depth %d, %v with one more", less, depth, more)
			}
			wentOn++
		default:
			// As many as it took are enough, one less of either is not.
			if enough := with(less.Steps, less.Depth); !same(enough, less) {
				t.Fatalf("%v, and with as many as it took %v", less, enough)
			}
			if short := with(less.Steps-1, less.Depth); short.End != api.Steps || short.Steps != less.Steps-1 {
				t.Fatalf("%v, and with one step less %v", less, short)
			}
			if short := with(less.Steps, less.Depth-1); short.End != api.Deep || short.Depth != less.Depth-1 {
				t.Fatalf("%v, and with a depth less %v", less, short)
			}
			ended++
		}
	}
	if wentOn < 1000 || ended < 1000 {
		t.Errorf("%d went on, %d ended", wentOn, ended)
	}
}

// A trace with more and more steps, from none on, grows to what it ends as.
func TestStepByStep(t *testing.T) {
	p := fibonacci()
	for i := range p[0].Blocks {
		p[0].Blocks[i].Ins = append([]api.Ins{show(0)}, p[0].Blocks[i].Ins...)
	}
	whole := ran(t, p, 0, words(6), many, many)
	if whole.End != api.Told || whole.Depth != 6 || len(whole.Shows) != whole.Steps {
		t.Fatalf("%v", whole)
	}
	for depth := range whole.Depth + 2 {
		last := api.Trace{}
		for steps := range whole.Steps + 2 {
			trace := ran(t, p, 0, words(6), steps, depth)
			wantOnward(t, last, trace)
			wantOnward(t, trace, whole)
			if ends(trace) != (steps >= whole.Steps && depth >= whole.Depth) {
				t.Errorf("with %d steps, depth %d: %v", steps, depth, trace)
			}
			if want := slowRun(p, 0, words(6), steps, depth); !same(trace, want) {
				t.Errorf("with %d steps, depth %d: %v; want %v", steps, depth, trace, want)
			}
			last = trace
		}
	}
}

// P8.2: graphs that are trimmed, one of them or all, run alike.
func TestTrimmedGraphs(t *testing.T) {
	m := maker{odds: firstOdd}
	less, moved := 0, 0
	for range 6000 {
		c := m.next()
		steps, depth := m.below(60), m.below(7)
		want := ran(t, c.p, c.f, c.args, steps, depth)
		all := copiedAll(c.p)
		for i, g := range c.p {
			all[i] = graph.Trim(g)
			one := copiedAll(c.p)
			one[i] = all[i]
			if trace := ran(t, one, c.f, c.args, steps, depth); !same(trace, want) {
				t.Fatalf("%v: %v; with the graph %d trimmed %v", c.p, want, i, trace)
			}
			if len(all[i].Blocks) < len(g.Blocks) {
				less++
			}
			if !slices.IsSorted(graph.Order(g)) {
				moved++
			}
		}
		if trace := ran(t, all, c.f, c.args, steps, depth); !same(trace, want) {
			t.Fatalf("%v: %v; trimmed %v", c.p, want, trace)
		}
	}
	if less < 1000 || moved < 1000 {
		t.Errorf("%d graphs have become less, of %d the order is another one", less, moved)
	}
}

// By hand: blocks that stand in another order, one that is not reached, phis whose arguments change their places.
func TestTrimmedByHand(t *testing.T) {
	p := []api.Graph{numbers(1,
		block(jump(4), constant(3, 10), constant(4, 20)),
		block(back(2), show(2)),
		block(jump(3)),
		block(branch(truth, 4, 1), phi(2, 4, 3, 4), show(2), op(api.OpLt, truth, 2, 0), constant(0, 0)),
		block(branch(truth, 5, 3), phi(1, 3, 4), show(1), op(api.OpEq, truth, 1, 4)),
		block(jump(3)))}
	want := ran(t, p, 0, words(15), many, 1)
	if !same(want, told(20, 7, 1, whole(10, 10, 20, 20, 20)...)) {
		t.Fatalf("%v", want)
	}
	trimmed := []api.Graph{graph.Trim(p[0])}
	if len(trimmed[0].Blocks) != 5 {
		t.Fatalf("Trim: %v", trimmed)
	}
	for steps := range want.Steps + 2 {
		if a, b := ran(t, p, 0, words(15), steps, 1), ran(t, trimmed, 0, words(15), steps, 1); !same(a, b) {
			t.Errorf("with %d steps: %v; trimmed %v", steps, a, b)
		}
	}
}
