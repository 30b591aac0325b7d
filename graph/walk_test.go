package graph_test

import (
	"math"
	"runtime/debug"
	"slices"
	"testing"

	"smithy/api"
	"smithy/graph"
)

func TestNext(t *testing.T) {
	for _, c := range []struct {
		end  api.Term
		want []int
	}{
		{jump(3), []int{3}}, {jump(0), []int{0}}, {fork(1, 2), []int{1, 2}}, {fork(2, 1), []int{1, 2}}, {fork(2, 2), []int{2}}, {fork(0, 0), []int{0}},
		{back(3), nil}, {trap(1), nil}, {api.Term{}, nil},
		// Whatever it names, and whatever else it has.
		{jump(-7), []int{-7}}, {jump(math.MaxInt), []int{math.MaxInt}}, {fork(5, -5), []int{-5, 5}}, {fork(math.MaxInt, math.MinInt), []int{math.MinInt, math.MaxInt}}, {fork(-1, -1), []int{-1}},
		{api.Term{Kind: api.TermJump, Arg: 8, To: [2]int{4, 2}, Trap: 7}, []int{4}},
		{api.Term{Kind: api.TermReturn, To: [2]int{4, 2}}, nil}, {api.Term{Kind: api.TermTrap, To: [2]int{4, 2}}, nil},
		{api.Term{Kind: 0, To: [2]int{4, 2}}, nil}, {api.Term{Kind: 5, To: [2]int{4, 2}}, nil}, {api.Term{Kind: 255, To: [2]int{4, 2}}, nil},
	} {
		got := graph.Next(api.Block{Ins: []api.Ins{show(1)}, Term: c.end})
		if !slices.Equal(got, c.want) {
			t.Errorf("Next of %v: %v; want %v", c.end, got, c.want)
		}
	}
}

func wantAhead(t *testing.T, g api.Graph, want ...[]int) {
	t.Helper()
	if got := graph.Ahead(g); !sameLists(got, want) {
		t.Errorf("Ahead: %v; want %v", got, want)
	}
}

func TestAhead(t *testing.T) {
	wantAhead(t, api.Graph{})
	wantAhead(t, blocks(trap(1)), nil)
	wantAhead(t, blocks(jump(0)), []int{0})
	// Both To of a branch are one edge, if they are one block.
	wantAhead(t, blocks(fork(1, 1), back(0)), nil, []int{0})
	// The entry, blocks that are not reached, and a block itself may be ahead.
	wantAhead(t, blocks(fork(1, 2), fork(0, 1), jump(1), jump(1), jump(4)), []int{1}, []int{0, 1, 2, 3}, []int{0}, nil, []int{4})
	// What is no block is passed over.
	wantAhead(t, blocks(fork(-1, 1), fork(2, 1), jump(math.MaxInt), fork(math.MinInt, 3)), nil, []int{0, 1}, []int{1}, []int{3})
	wantAhead(t, blocks(jump(3), fork(4, 5), jump(-1)), nil, nil, nil)
	// The To of ends that name nothing count for nothing.
	g := blocks(jump(1), api.Term{Kind: api.TermReturn, To: [2]int{2, 1}}, api.Term{Kind: api.TermTrap, To: [2]int{1, 1}}, api.Term{Kind: 9, To: [2]int{1, 2}})
	wantAhead(t, g, nil, []int{0}, nil, nil)
	g = blocks(api.Term{Kind: api.TermJump, To: [2]int{1, 2}}, back(0), back(0))
	wantAhead(t, g, nil, []int{0}, nil)
}

func TestOrder(t *testing.T) {
	wantList(t, "no blocks", graph.Order(api.Graph{}))
	wantList(t, "one block", graph.Order(blocks(trap(1))), 0)
	wantList(t, "one block that leads to itself", graph.Order(blocks(fork(0, 0))), 0)
	// To[0] is gone to first, and so stands last.
	wantList(t, "1 first", graph.Order(blocks(fork(1, 2), trap(1), trap(1))), 0, 2, 1)
	wantList(t, "2 first", graph.Order(blocks(fork(2, 1), trap(1), trap(1))), 0, 1, 2)
	wantList(t, "one twice", graph.Order(blocks(fork(2, 2), trap(1), trap(1))), 0, 2)
	// Each wholly: 3 is met by way of 1, though 2 names it, too.
	wantList(t, "a diamond", graph.Order(blocks(fork(1, 2), jump(3), jump(3), back(0))), 0, 2, 1, 3)
	wantList(t, "a triangle", graph.Order(blocks(fork(1, 2), jump(2), back(0))), 0, 1, 2)
	wantList(t, "a triangle the other way", graph.Order(blocks(fork(2, 1), jump(2), back(0))), 0, 1, 2)
	wantList(t, "a loop", graph.Order(blocks(jump(1), fork(2, 3), jump(1), back(0))), 0, 1, 3, 2)
	wantList(t, "a loop, its end first", graph.Order(blocks(jump(1), fork(3, 2), jump(1), back(0))), 0, 1, 2, 3)
	wantList(t, "two loops in one another", graph.Order(blocks(jump(1), fork(2, 5), fork(3, 4), jump(2), jump(1), back(0))), 0, 1, 5, 2, 4, 3)
	wantList(t, "a way back to the entry", graph.Order(blocks(fork(2, 1), jump(0), fork(0, 1))), 0, 2, 1)
	// Blocks that are not reached, though they lead to others.
	wantList(t, "not reached", graph.Order(blocks(jump(3), jump(2), jump(1), back(0), fork(3, 0))), 0, 3)
	wantList(t, "told at once", graph.Order(blocks(back(0), jump(2), jump(1))), 0)
	// What is no block is passed over, and what an end does not name.
	wantList(t, "no block", graph.Order(blocks(fork(-1, 2), jump(1), fork(1, 3))), 0, 2, 1)
	wantList(t, "far from any", graph.Order(blocks(fork(math.MaxInt, math.MinInt), jump(0))), 0)
	wantList(t, "a jump's To[1]", graph.Order(blocks(api.Term{Kind: api.TermJump, To: [2]int{2, 1}}, trap(1), trap(1))), 0, 2)
	wantList(t, "ends of no kind", graph.Order(blocks(fork(2, 1), api.Term{Kind: api.TermReturn, To: [2]int{3, 3}}, api.Term{Kind: 7, To: [2]int{3, 3}}, trap(1))), 0, 1, 2)
}

func TestCount(t *testing.T) {
	for _, c := range []struct {
		g    api.Graph
		want int
	}{
		{api.Graph{}, 0}, {api.Graph{Vars: types, Params: []int{1, 2}, Arrays: make([]api.Array, 7)}, 0}, {blocks(trap(1)), 1}, {blocks(trap(1), jump(7), api.Term{}), 3},
		{host(show(1), show(2)), 3}, {host(api.Ins{}, api.Ins{Kind: 99}, phi(1, 2, 3)), 4}, {example(), 9},
		// Those that are not reached count, too.
		{api.Graph{Blocks: []api.Block{{Term: trap(1)}, {Ins: make([]api.Ins, 1000)}, {}, {Ins: make([]api.Ins, 2)}}}, 1006},
	} {
		if n := graph.Count(c.g); n != c.want {
			t.Errorf("Count of %v: %d; want %d", c.g, n, c.want)
		}
	}
}

// Of any graph the walk, and all that hangs on it, is that of the second way.
func TestAnyGraph(t *testing.T) {
	m := maker{odds: firstOdd}
	reached, less := 0, 0
	for range 20000 {
		g := m.junk()
		order := graph.Order(g)
		wantList(t, "Order", order, slowOrder(g)...)
		for i, l := range graph.Ahead(g) {
			wantList(t, "Ahead", l, slowAhead(g, i)...)
		}
		for _, b := range g.Blocks {
			next := graph.Next(b)
			for to := -9; to < 20; to++ {
				if slices.Contains(next, to) != edge(b.Term, to) {
					t.Errorf("Next of %v: %v", b.Term, next)
				}
			}
			if !slices.IsSorted(next) || len(next) > 2 || len(next) == 2 && next[0] == next[1] {
				t.Errorf("Next of %v: %v", b.Term, next)
			}
		}
		if got, want := graph.Trim(g), slowTrim(g); !same(got, want) {
			t.Errorf("Trim of %v: %v; want %v", g, got, want)
		}
		reached += len(order)
		less += len(g.Blocks) - len(order)
		if t.Failed() {
			t.FailNow()
		}
	}
	if reached < 30000 || less < 30000 {
		t.Errorf("%d blocks were reached, %d were not", reached, less)
	}
}

// bounded lets Go's stack grow no further than by so many bytes till the test ends: who needs more ends the whole run.
func bounded(t *testing.T, bytes int) {
	was := debug.SetMaxStack(bytes)
	t.Cleanup(func() { debug.SetMaxStack(was) })
}

// row is so many blocks one behind another, each with the end that it is told, the last one with a trap.
func row(n int, end func(i int) api.Term) api.Graph {
	g := api.Graph{Result: api.I64, Vars: slices.Clone(types), Blocks: make([]api.Block, n)}
	for i := range n - 1 {
		g.Blocks[i].Term = end(i)
	}
	g.Blocks[n-1].Term = trap(1)
	return g
}

func rising(n int) []int {
	l := make([]int, n)
	for i := range l {
		l[i] = i
	}
	return l
}

// Many blocks one behind another: as many as may be of a right graph, and more than that.
func TestLongRows(t *testing.T) {
	bounded(t, 64<<20)
	for _, n := range []int{api.MaxBlocks, 3*api.MaxBlocks + 5} {
		for _, end := range []func(i int) api.Term{
			func(i int) api.Term { return jump(i + 1) },
			func(i int) api.Term { return fork(i+1, i+1) },
			func(i int) api.Term { return fork(i+1, max(1, i)) },
			func(i int) api.Term { return fork(max(1, i), i+1) },
			func(i int) api.Term { return fork(i+1, n-1) },
		} {
			g := row(n, end)
			if !slices.Equal(graph.Order(g), rising(n)) {
				t.Errorf("Order of a row of %d is not the row", n)
			}
			if n == api.MaxBlocks {
				wantRight(t, "a row", g)
			}
		}
	}
	// The last block first: all but it are left in the other order.
	const n = api.MaxBlocks
	g := row(n, func(i int) api.Term { return fork(n-1, i+1) })
	if !slices.Equal(graph.Order(g), rising(n)) {
		t.Error("Order of a row whose end is gone to first is not the row")
	}
	// The entry first, then the row backward.
	g = row(n, func(i int) api.Term { return jump(max(1, i-1)) })
	g.Blocks[0].Term = jump(n - 1)
	g.Blocks[n-1].Term = jump(n - 2)
	want := rising(n)
	slices.Reverse(want[1:])
	if !slices.Equal(graph.Order(g), want) {
		t.Error("Order of a row backward is not that row")
	}
	if h := graph.Trim(g); !slices.Equal(graph.Order(h), rising(n)) || h.Blocks[5].Term != jump(6) || h.Blocks[n-1].Term != jump(n-1) {
		t.Error("Trim of a row backward is not the row")
	}
}

// Deep walks that turn back often, held against the second way: rows about any depth at which the walk may go on otherwise.
func TestDeepWalks(t *testing.T) {
	o := firstOdd
	for n := 1; n < 1<<17; n = n*3/2 + o.below(5) + 1 {
		for _, far := range []int{1, 2, 3, 50} {
			g := row(n, func(i int) api.Term {
				to, other := i+1+o.below(far), i+1+o.below(far)
				if o.often(10) {
					other = o.below(n)
				}
				return pick(&o, fork(to, other), fork(other, to), fork(i+1, other), jump(to))
			})
			if got, want := graph.Order(g), slowOrder(g); !slices.Equal(got, want) {
				t.Fatalf("a walk of %d blocks is not that of the second way", n)
			}
		}
	}
	for n := 1<<12 - 4; n < 1<<12+5; n++ {
		// A ladder: each block goes on, and leads to one of its own.
		for _, turned := range []int{0, 1} {
			g := row(2*n, func(i int) api.Term {
				if i >= n-1 {
					return trap(1)
				}
				to := [2]int{i + 1, i + n}
				return fork(to[turned], to[1-turned])
			})
			if !slices.Equal(graph.Order(g), slowOrder(g)) {
				t.Fatalf("a ladder of %d blocks is walked another way", n)
			}
		}
	}
}
