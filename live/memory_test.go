package live_test

import (
	"reflect"
	"slices"
	"sync"
	"testing"

	"smithy/api"
	"smithy/live"
)

// roomy is a graph of its own whose lists have spare room, filled with what could be told of.
func roomy(g api.Graph) api.Graph {
	g = copied(g)
	for i, b := range g.Blocks {
		for j, x := range b.Ins {
			b.Ins[j].Args = append(x.Args, 1, 2)[:len(x.Args)]
		}
		g.Blocks[i].Ins = append(b.Ins, show(1))[:len(b.Ins)]
	}
	g.Blocks = append(g.Blocks, block(jump(1), show(1)))[:len(g.Blocks)]
	g.Params = append(g.Params, 1)[:len(g.Params)]
	g.Vars = append(g.Vars, api.U8)[:len(g.Vars)]
	g.Arrays = append(g.Arrays, api.Array{Type: api.U8, Size: 1})[:len(g.Arrays)]
	return g
}

// spread is a roomy graph with its spare room, copied.
func spread(g api.Graph) api.Graph {
	n := len(g.Blocks)
	g.Blocks = slices.Clone(g.Blocks[:n+1])
	for i, b := range g.Blocks[:n] {
		ins := slices.Clone(b.Ins[:len(b.Ins)+1])
		for j, x := range ins[:len(b.Ins)] {
			ins[j].Args = slices.Clone(x.Args[:len(x.Args)+2])
		}
		g.Blocks[i].Ins = ins
	}
	g.Params, g.Vars, g.Arrays = slices.Clone(g.Params[:len(g.Params)+1]), slices.Clone(g.Vars[:len(g.Vars)+1]), slices.Clone(g.Arrays[:len(g.Arrays)+1])
	return g
}

// someGraph is one with calls, phis and arrays, one with many variables, or one that may be refused.
func (m *maker) someGraph() api.Graph {
	switch m.below(3) {
	case 0:
		return m.truths(1+m.below(20), 1+m.below(150), pick(&m.odds, 10, 50))
	case 1:
		g := pick(&m.odds, m.program()...)
		m.bend(&g)
		return g
	}
	return pick(&m.odds, m.program()...)
}

func TestNothingHandedInIsChanged(t *testing.T) {
	m := maker{odds: firstOdd}
	refused := 0
	for range 3000 {
		g := roomy(m.someGraph())
		was := spread(g)
		into, out, e := live.Live(g)
		if !reflect.DeepEqual(spread(g), was) {
			t.Fatalf("%v has become %v", was, spread(g))
		}
		if e != api.OK {
			refused++
		}
		// Spare room plays no part.
		if a, b, f := live.Live(copied(g)); e != f || !sameLists(into, a) || !sameLists(out, b) {
			t.Fatalf("%v is told otherwise without spare room", g)
		}
	}
	if refused < 200 {
		t.Errorf("%d were refused", refused)
	}
}

// numbers are all lists of numbers of a graph.
func numbers(g api.Graph) [][]int {
	l := [][]int{g.Params}
	for _, b := range g.Blocks {
		for _, x := range b.Ins {
			l = append(l, x.Args)
		}
	}
	return l
}

// wantApart fills each list, its spare room too, with a number of its own, and asks that each still has its own behind that.
func wantApart(t *testing.T, what string, lists [][]int) {
	t.Helper()
	for i, l := range lists {
		for j := range l[:cap(l)] {
			l[:cap(l)][j] = -1000 - i
		}
	}
	for i, l := range lists {
		if slices.ContainsFunc(l[:cap(l)], func(n int) bool { return n != -1000-i }) {
			t.Fatalf("%s: two lists share memory", what)
		}
	}
}

// What is handed out is new: who changes it changes neither what was handed in, nor another answer, nor another list of this one.
func TestWhatIsHandedOutIsNew(t *testing.T) {
	m := maker{odds: firstOdd}
	for range 1500 {
		g := roomy(m.truths(1+m.below(20), 1+m.below(150), pick(&m.odds, 10, 50)))
		was := spread(g)
		one, two, e := live.Live(g)
		into, out, f := live.Live(g)
		if e != api.OK || f != api.OK || len(one) != len(g.Blocks) || len(two) != len(g.Blocks) {
			t.Fatalf("%v: %d, %d lists, %d, %d", g, len(one), len(two), e, f)
		}
		wantApart(t, "what is live", slices.Concat(into, out))
		clear(into[:cap(into)])
		clear(out[:cap(out)])
		a, b := leastSets(g)
		if !reflect.DeepEqual(spread(g), was) || !sameLists(one, a) || !sameLists(two, b) {
			t.Fatalf("%v: other lists have changed", g)
		}
		wantApart(t, "all lists", slices.Concat(one, two, numbers(g)))
	}
}

// The rows of what is live into blocks and out of them are two lists.
func TestIntoAndOutAreApart(t *testing.T) {
	into, out, _ := live.Live(example(0, 2, 2))
	clear(into[:cap(into)])
	if !sameLists(out, rows(row(0, 2), row(0), row(2), nil, row(2))) {
		t.Errorf("what is live out of blocks has become %v", out)
	}
}

// An answer hangs on what is handed in alone: not on what was asked before, nor on what is asked beside it.
func TestSameAnswerEachTime(t *testing.T) {
	m := maker{odds: firstOdd}
	var graphs []api.Graph
	var want [][][]int
	for range 300 {
		g := m.truths(1+m.below(30), 1+m.below(200), pick(&m.odds, 10, 50))
		into, out, _ := live.Live(g)
		graphs, want = append(graphs, g), append(want, slices.Concat(into, out))
	}
	var wait sync.WaitGroup
	for range 4 {
		wait.Go(func() {
			for i, g := range graphs {
				live.Live(example(0))
				if into, out, e := live.Live(g); e != api.OK || !sameLists(slices.Concat(into, out), want[i]) {
					t.Errorf("%v is told otherwise another time", g)
				}
			}
		})
	}
	wait.Wait()
}
