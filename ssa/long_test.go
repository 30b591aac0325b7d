package ssa_test

import (
	"runtime/debug"
	"testing"

	"smithy/api"
	"smithy/graph"
	"smithy/ssa"
)

// sort is graphs of n blocks and k variables by a rule, and how many phis they need.
type sort struct {
	name  string
	block func(b, n, k int) api.Block
	phis  func(n, k int) int
}

func (s sort) made(n, k int) api.Graph {
	g := truths(1, k)
	for b := range n {
		g.Blocks = append(g.Blocks, s.block(b, n, k))
	}
	return g
}

func noPhi(n, k int) int { return 0 }

// turn is the variable whose turn it is at a block.
func turn(b, k int) int { return b % k }

// onward is an end that leads to the block behind, or tells a variable where there is none.
func onward(b, n int) api.Term {
	if b == n-1 {
		return back(0)
	}
	return jump(b + 1)
}

// each is an instruction for each variable.
func each(k int, ins func(v int) api.Ins) []api.Ins {
	var l []api.Ins
	for v := range k {
		l = append(l, ins(v))
	}
	return l
}

func turned(v int) api.Ins { return not(v, v) }

// round leads from the last block to the one behind the entry.
func round(b, n int) api.Term { return jump(b%(n-1) + 1) }

// nested is loops in loops, in whose middle all variables are turned; each loop asks one.
func nested(b, n, k int) api.Block {
	switch {
	case b == 0:
		return block(jump(1))
	case b == n-1:
		return block(back(0), each(k, show)...)
	case b == n/2:
		return block(jump(b+1), each(k, turned)...)
	case b > n/2:
		return block(branch(turn(b, k), b+1, n-b))
	}
	return block(jump(b + 1))
}

// ladder is two rows of blocks; each block leads to both further on. The blocks of one row turn a variable.
func ladder(b, n, k int) api.Block {
	switch {
	case b == 0:
		return block(jump(1))
	case b == 1:
		return block(branch(0, 2, 3))
	case b >= n-2:
		return block(back(0), each(k, show)...)
	}
	next := b + 2 - b%2
	end := branch(turn(b, k), next, min(next+1, n-1))
	if b%2 == 0 {
		return block(end, turned(turn(b/2, k)))
	}
	return block(end)
}

var sorts = []sort{
	{"a row whose last block asks all", func(b, n, k int) api.Block {
		if b == n-1 {
			return block(back(0), each(k, show)...)
		}
		return block(onward(b, n))
	}, noPhi},
	{"a row whose entry sets all, and whose last block asks them", func(b, n, k int) api.Block {
		switch b {
		case 0:
			return block(onward(b, n), each(k, turned)...)
		case n - 1:
			return block(back(0), each(k, show)...)
		}
		return block(onward(b, n))
	}, noPhi},
	{"a row, each turning a variable", func(b, n, k int) api.Block {
		if b == n-1 {
			return block(back(0), each(k, show)...)
		}
		return block(onward(b, n), turned(turn(b, k)))
	}, noPhi},
	{"a row, each setting what the next one asks", func(b, n, k int) api.Block { return block(onward(b, n), not(turn(b+1, k), turn(b, k))) }, noPhi},
	{"a circle, each turning a variable", func(b, n, k int) api.Block { return block(round(b, n), turned(turn(b, k)), show(turn(b, k))) }, func(n, k int) int { return min(n-1, k) }},
	{"a circle that turns all at one place", func(b, n, k int) api.Block {
		if b == n/2 {
			return block(round(b, n), each(k, turned)...)
		}
		return block(round(b, n))
	}, func(n, k int) int { return k }},
	{"a circle that asks all and sets none", func(b, n, k int) api.Block {
		if b == n/2 {
			return block(round(b, n), each(k, show)...)
		}
		return block(round(b, n))
	}, noPhi},
	{"a circle that sets what it asks", func(b, n, k int) api.Block { return block(round(b, n), constant(turn(b, k)), show(turn(b, k))) }, noPhi},
	{"a comb whose teeth turn a variable", func(b, n, k int) api.Block {
		switch {
		case b >= n-2:
			return block(back(0), each(k, show)...)
		case b%2 == 1:
			return block(jump(b+1), turned(turn(b/2, k)))
		}
		return block(branch(turn(b/2, k), b+1, b+2))
	}, func(n, k int) int { return (n - 2) / 2 }},
	{"a comb whose teeth ask", func(b, n, k int) api.Block {
		switch {
		case b == 0:
			return block(jump(2), each(k, turned)...)
		case b >= n-2:
			return block(back(0))
		case b%2 == 1:
			return block(trap(2), show(turn(b/2, k)))
		}
		return block(branch(turn(b/2, k), b+1, b+2))
	}, noPhi},
	{"a comb whose teeth set what nobody asks", func(b, n, k int) api.Block {
		switch {
		case b >= n-2:
			return block(trap(1))
		case b%2 == 1:
			return block(jump(b+1), constant(turn(b/2, k)), show(turn(b/2, k)))
		}
		return block(branch(0, b+1, b+2), constant(0))
	}, noPhi},
	{"loops in loops", nested, func(n, k int) int { return k * (n - 2 - n/2) }},
	{"a row that can be gone both ways", func(b, n, k int) api.Block {
		switch b {
		case 0:
			return block(jump(1))
		case n - 1:
			return block(back(0), each(k, show)...)
		}
		return block(branch(turn(b, k), b+1, max(1, b-1)), turned(turn(b, k)))
	}, nil},
	{"a ladder", ladder, nil},
	{"a row in which each leads to the last one", func(b, n, k int) api.Block {
		if b == n-1 {
			return block(back(0), each(k, show)...)
		}
		return block(branch(turn(b, k), b+1, n-1), turned(turn(b, k)))
	}, func(n, k int) int { return min(k, n-2) }},
	{"a row of branches to one block", func(b, n, k int) api.Block {
		if b == n-1 {
			return block(back(0), each(k, show)...)
		}
		return block(branch(turn(b, k), b+1, b+1), turned(turn(b, k)))
	}, noPhi},
}

// What is wanted of long graphs is what the words say of short ones.
func TestSortsOfGraphs(t *testing.T) {
	for _, s := range sorts {
		for n := 7; n < 18; n++ {
			for k := 1; k < 6; k++ {
				g := s.made(n, k)
				h := wantKept(t, s.name, []api.Graph{g}, 0)
				if wantFewest(t, graph.Trim(g), h); s.phis != nil && countPhis(h) != s.phis(n, k) {
					t.Fatalf("%s, %d and %d: %v has %d phis; want %d", s.name, n, k, h.Blocks, countPhis(h), s.phis(n, k))
				}
			}
		}
	}
}

// wantLong asks for all that is promised that can be told without the words.
func wantLong(t *testing.T, s sort, g api.Graph, n, k int) {
	t.Helper()
	h, e := ssa.Build([]api.Graph{g}, 0)
	if e != api.OK || !ssa.Is(h) || !sameFace(g, h) || s.phis != nil && countPhis(h) != s.phis(n, k) {
		t.Fatalf("%s of %d blocks and %d variables: %d, %d phis", s.name, n, k, e, countPhis(h))
	}
	if e, _ := graph.Check([]api.Graph{h}); e != api.OK {
		t.Fatalf("%s of %d blocks and %d variables: Check tells %d", s.name, n, k, e)
	}
	p, q := []api.Graph{g}, []api.Graph{h}
	wantSameRun(t, s.name, p, q, 0, []uint64{1}, n+n/2, 2)
}

// Nobody calls itself along a long row, or goes along it again for each of its blocks or variables: who does so ends the run, or never ends.
func TestLongGraphs(t *testing.T) {
	was := debug.SetMaxStack(1 << 20)
	defer debug.SetMaxStack(was)
	for _, s := range sorts {
		for _, size := range [][2]int{{150003, 3}, {20011, 50}, {1001, 1000}} {
			if s.phis == nil && size[1] > 3 {
				size[0] /= 20
			}
			wantLong(t, s, s.made(size[0], size[1]), size[0], size[1])
		}
	}
}

// Many blocks with many variables, which are asked on and on: whoever lays all of them to each block never ends.
func TestManyBlocksWithManyVariables(t *testing.T) {
	for _, s := range sorts {
		switch s.name {
		case "a row, each turning a variable", "a circle, each turning a variable", "a comb whose teeth turn a variable", "a comb whose teeth ask":
			wantLong(t, s, s.made(100003, 500), 100003, 500)
		}
		if s.name == "a comb whose teeth ask" {
			wantLong(t, s, s.made(100003, 20000), 100003, 20000)
		}
	}
}

// As many variables as blocks, each of which is asked near by: who goes through the graph for each of them never ends.
func TestBlocksWithVariablesOfTheirOwn(t *testing.T) {
	own := []sort{
		{"diamonds", func(b, n, k int) api.Block {
			switch v := b / 4; {
			case b == n-1:
				return block(back(0))
			case b%4 == 0:
				return block(branch(0, b+1, b+2))
			case b%4 == 3:
				return block(jump(b+1), show(v))
			default:
				return block(jump(b+3-b%4), number(v, uint64(b%2)))
			}
		}, func(n, k int) int { return n / 4 }},
		{"loops one behind the other", func(b, n, k int) api.Block {
			if b == n-1 {
				return block(back(0))
			}
			if b == 0 {
				return block(jump(1))
			}
			return block(branch(b, b, b+1), turned(b))
		}, func(n, k int) int { return n - 2 }},
		{"a row, each setting what the next one asks", sorts[3].block, noPhi},
	}
	for _, s := range own {
		for _, n := range []int{9, 13, 200001} {
			g := s.made(n, n)
			if n < 100 {
				wantFewest(t, g, wantKept(t, s.name, []api.Graph{g}, 0))
			}
			wantLong(t, s, g, n, n)
		}
	}
}

// By other numbers nothing is met in the order of the row, neither blocks nor variables.
func TestLongGraphsByOtherNumbers(t *testing.T) {
	m := maker{odds: firstOdd}
	for _, s := range sorts {
		for _, size := range [][2]int{{12, 4}, {5001, 30}, {701, 130}} {
			g := s.made(size[0], size[1])
			m.renumber(&g)
			if size[0] < 100 {
				wantFewest(t, g, wantKept(t, s.name, []api.Graph{g}, 0))
			}
			wantLong(t, s, g, size[0], size[1])
		}
	}
}

// renumber gives other numbers to all blocks of a graph but the entry, and to its variables.
func (m *maker) renumber(g *api.Graph) {
	names, vars := row(0), m.shuffled(len(g.Vars))
	for _, b := range m.shuffled(len(g.Blocks) - 1) {
		names = append(names, b+1)
	}
	h := copied(*g)
	for i, v := range h.Params {
		g.Params[i] = vars[v]
	}
	for i, b := range h.Blocks {
		for j, x := range b.Ins {
			for k, v := range x.Args {
				x.Args[k] = vars[v]
			}
			if sets(x, x.Dst) {
				b.Ins[j].Dst = vars[x.Dst]
			}
		}
		if endAsks(b.Term) {
			b.Term.Arg = vars[b.Term.Arg]
		}
		for j := range ends(b.Term) {
			b.Term.To[j] = names[b.Term.To[j]]
		}
		g.Blocks[names[i]] = b
	}
}

// Is is asked of long graphs that are not set once, too: the last use of all stands ahead of its setting.
func TestIsOfLongGraphs(t *testing.T) {
	const n = 200003
	long := func(first, last []api.Ins) api.Graph {
		g := truths(1, 3)
		for b := range n {
			g.Blocks = append(g.Blocks, block(onward(b, n)))
		}
		g.Blocks[1].Ins, g.Blocks[n-1].Ins = first, last
		return g
	}
	for what, want := range map[bool]api.Graph{
		true:  long([]api.Ins{constant(1)}, []api.Ins{not(2, 1)}),
		false: long([]api.Ins{not(2, 1)}, []api.Ins{constant(1)}),
	} {
		if ssa.Is(want) != what {
			t.Errorf("Is of a long row tells %v", !what)
		}
	}
}
