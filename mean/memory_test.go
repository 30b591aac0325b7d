package mean_test

import (
	"reflect"
	"slices"
	"sync"
	"testing"

	"smithy/api"
	"smithy/mean"
)

// roomy is a tree whose lists have spare room, filled with what could be told of.
func roomy(t api.Tree) api.Tree {
	t = copied(t)
	for i, n := range t.Nodes {
		t.Nodes[i].Kids = append(n.Kids, 77, 78)[:len(n.Kids)]
	}
	for i, f := range t.Funcs {
		t.Funcs[i].Params = append(f.Params, api.Param{Name: "spare"})[:len(f.Params)]
	}
	t.Nodes = append(t.Nodes, api.Node{Name: "spare"})[:len(t.Nodes)]
	t.Funcs = append(t.Funcs, api.Func{Name: "spare"})[:len(t.Funcs)]
	return t
}

// spread is a tree with its spare room, copied.
func spread(t api.Tree) api.Tree {
	t.Nodes, t.Funcs = slices.Clone(t.Nodes[:len(t.Nodes)+1]), slices.Clone(t.Funcs[:len(t.Funcs)+1])
	for i, n := range t.Nodes[:len(t.Nodes)-1] {
		t.Nodes[i].Kids = slices.Clone(n.Kids[:len(n.Kids)+2])
	}
	for i, f := range t.Funcs[:len(t.Funcs)-1] {
		t.Funcs[i].Params = slices.Clone(f.Params[:len(f.Params)+1])
	}
	return t
}

func TestNothingHandedInIsChanged(t *testing.T) {
	m := maker{odds: firstOdd}
	for range 300 {
		c := m.next(t)
		tree := roomy(c.tree)
		args := append(slices.Clone(c.args), 5, 6)
		tree2, args2 := spread(tree), slices.Clone(args)
		mean.Run(tree, c.f, args[:len(c.args)], 200, 10)
		if !reflect.DeepEqual(spread(tree), tree2) || !slices.Equal(args, args2) {
			t.Fatalf("%s: the tree or the words have changed", c.src)
		}
	}
	// Parameters that are set leave the words as they are.
	args := []uint64{1, 2}
	mean.Run(taken(t, "func f(a i64, b i64) i64 { a = 7; b = 8; f2(a, b); } func f2(a i64, b i64) i64 { a = 9; }"), 0, args, many, many)
	if !slices.Equal(args, []uint64{1, 2}) {
		t.Errorf("the words have become %d", args)
	}
}

// What is handed out is new: who changes it, its spare room too, changes no other answer.
func TestWhatIsHandedOutIsNew(t *testing.T) {
	tree := taken(t, "func f(n i64) i64 { print n; if n > 0 { f(n - 1); } print 1 / n; }")
	want := trapped(api.TrapZero, 4, 4, whole(3, 2, 1, 0)...)
	first := ran(t, tree, 0, []uint64{3}, many, many, "first")
	other := ran(t, tree, 0, []uint64{3}, many, many, "other")
	spare := first.Shows[:cap(first.Shows)]
	for i := range spare {
		spare[i] = api.Show{Type: 77, Bits: 77}
	}
	if again := ran(t, tree, 0, []uint64{3}, many, many, "again"); !same(other, want) || !same(again, want) {
		t.Errorf("%v and %v; want %v", other, again, want)
	}
}

// An answer hangs on what is handed in alone: not on what was asked before, nor on what is asked beside it.
func TestSameAnswerEachTime(t *testing.T) {
	m := maker{odds: firstOdd}
	var all []made
	var want []api.Trace
	for range 60 {
		c := m.next(t)
		all, want = append(all, c), append(want, ran(t, c.tree, c.f, c.args, 200, 10, c.src))
	}
	var wait sync.WaitGroup
	for range 4 {
		wait.Go(func() {
			for i, c := range all {
				if trace, err := mean.Run(c.tree, c.f, c.args, 200, 10); err != api.OK || !same(trace, want[i]) {
					t.Errorf("%s: %v, %d; want %v", c.src, trace, err, want[i])
				}
			}
		})
	}
	wait.Wait()
}

// Each run begins with arrays of 0 and variables of its own, whatever a run before it left.
func TestRunsLeaveNothing(t *testing.T) {
	tree := taken(t, "func f() i64 { var a[200] i64; var i i64 = 0; var s i64 = 0; while i < 200 { s = s + a[i]; a[i] = i + 1; i = i + 1; } return s; }")
	for range 3 {
		if trace := ran(t, tree, 0, nil, many, many, "again"); !same(trace, told(0, 202, 1)) {
			t.Errorf("%v", trace)
		}
	}
}
