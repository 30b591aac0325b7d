package mean_test

import (
	"slices"
	"testing"

	"smithy/api"
)

func ends(t api.Trace) bool { return t.End == api.Told || t.End == api.Trapped }

// wantOnward asks that a run with more steps, or more depth, stays as it is, if it ended, and else begins as it was.
func wantOnward(t *testing.T, less, more api.Trace, what string) {
	t.Helper()
	if ends(less) && !same(less, more) {
		t.Fatalf("%s: %v became %v", what, less, more)
	}
	if len(more.Shows) < len(less.Shows) || !slices.Equal(more.Shows[:len(less.Shows)], less.Shows) || more.Steps < less.Steps || more.Depth < less.Depth {
		t.Fatalf("%s: %v went on as %v", what, less, more)
	}
}

func TestMoreStepsAndDepth(t *testing.T) {
	m := maker{odds: firstOdd}
	wentOn := 0
	for range 1500 {
		c := m.next(t)
		run := func(steps, depth int) api.Trace { return ran(t, c.tree, c.f, c.args, steps, depth, c.src) }
		steps, depth := m.below(40), m.below(6)
		less := run(steps, depth)
		wantOnward(t, less, run(steps+1, depth), c.src)
		wantOnward(t, less, run(steps, depth+1), c.src)
		wantOnward(t, less, run(steps+m.below(100), depth+m.below(9)), c.src)
		// Just what is missing lets it go on.
		switch less.End {
		case api.Steps:
			if less.Steps != steps || run(steps+1, depth).Steps != steps+1 {
				t.Fatalf("%s: %v with %d steps, %v with one more", c.src, less, steps, run(steps+1, depth))
			}
			wentOn++
		case api.Deep:
			if less.Depth != depth || run(steps+1, depth+1).Depth != depth+1 {
				t.Fatalf("%s: %v with depth %d, %v with one more", c.src, less, depth, run(steps+1, depth+1))
			}
			wentOn++
		default:
			// As many as it took are enough, one less of either is not.
			if enough := run(less.Steps, less.Depth); !same(enough, less) {
				t.Fatalf("%s: %v, and with as many as it took %v", c.src, less, enough)
			}
			if short := run(less.Steps-1, less.Depth); short.End != api.Steps {
				t.Fatalf("%s: %v, and with one step less %v", c.src, less, short)
			}
			if short := run(less.Steps, less.Depth-1); short.End != api.Deep {
				t.Fatalf("%s: %v, and with a depth less %v", c.src, less, short)
			}
		}
	}
	if wentOn < 300 || wentOn > 1300 {
		t.Errorf("%d went on", wentOn)
	}
}

// A trace with more and more steps, from none on, grows to what it ends as.
func TestStepByStep(t *testing.T) {
	const src = "func f(n i64) i64 { print n; var i i64 = 0; while i < n { if i == 2 { i = i + 2; continue; } print g(i, n) * 100; i = i + 1; } return i; } func g(a i64, n i64) i64 { print a; if a == 1 { return f(n - 3); } return a / (n - a); }"
	tree := taken(t, src)
	whole := ran(t, tree, 0, []uint64{6}, many, many, src)
	if whole.End != api.Told || whole.Steps < 15 || whole.Depth < 3 {
		t.Fatalf("%s: %v", src, whole)
	}
	for depth := range whole.Depth + 2 {
		last := api.Trace{}
		for steps := range whole.Steps + 2 {
			trace := ran(t, tree, 0, []uint64{6}, steps, depth, src)
			wantOnward(t, last, trace, src)
			wantOnward(t, trace, whole, src)
			if ends(trace) != (steps >= whole.Steps && depth >= whole.Depth) {
				t.Errorf("with %d steps, depth %d: %v", steps, depth, trace)
			}
			if !same(trace, reference(tree, 0, []uint64{6}, steps, depth)) {
				t.Errorf("with %d steps, depth %d: %v; want %v", steps, depth, trace, reference(tree, 0, []uint64{6}, steps, depth))
			}
			last = trace
		}
	}
}

// placed is a tree of its own with other places.
func placed(t api.Tree, at func() int) api.Tree {
	t = copied(t)
	for i := range t.Nodes {
		t.Nodes[i].At = at()
	}
	for i := range t.Funcs {
		t.Funcs[i].At = at()
		for j := range t.Funcs[i].Params {
			t.Funcs[i].Params[j].At = at()
		}
	}
	return t
}

func TestPlacesPlayNoPart(t *testing.T) {
	m := maker{odds: firstOdd}
	for range 500 {
		c := m.next(t)
		want := ran(t, c.tree, c.f, c.args, 200, 10, c.src)
		for _, at := range []func() int{func() int { return 0 }, func() int { return -1 }, func() int { return int(m.number()) }} {
			if trace := ran(t, placed(c.tree, at), c.f, c.args, 200, 10, c.src); !same(trace, want) {
				t.Fatalf("%s: %v; with other places %v", c.src, want, trace)
			}
		}
	}
}
