package graph_test

import (
	"math"
	"slices"
	"testing"

	"smithy/api"
	"smithy/graph"
)

func wantTrim(t *testing.T, what string, g, want api.Graph) {
	t.Helper()
	if got := graph.Trim(g); !same(got, want) {
		t.Errorf("%s: %v; want %v", what, got, want)
	}
}

// What has nothing to be trimmed stays as it was, with all its parts.
func TestTrimKeepsTheRest(t *testing.T) {
	wantTrim(t, "nothing", api.Graph{}, api.Graph{})
	g := host()
	g.Name, g.Params, g.Arrays[2].Size = "a name", []int{3, 9, 3, -1, 77}, -5
	for _, s := range sounds() {
		if s.ins.Kind != api.InsPhi {
			g.Blocks[0].Ins = append(g.Blocks[0].Ins, s.ins)
		}
	}
	g.Blocks[0].Ins = append(g.Blocks[0].Ins, api.Ins{Kind: 99, Op: 98, Dst: 97, Args: []int{96, 95}, Bits: 94, Ref: 93}, api.Ins{Kind: api.InsPrint, Op: 1, Dst: 2, Args: []int{3, 4, 5}, Bits: 6, Ref: 7})
	wantTrim(t, "one block", g, g)
	// No block, but all else.
	g.Blocks = nil
	wantTrim(t, "no block", g, g)
	for _, e := range []api.Term{{}, {Kind: 9, Arg: 8, To: [2]int{7, 6}, Trap: 5}, {Kind: api.TermReturn, Arg: 8, To: [2]int{0, 1}, Trap: 5}, {Kind: api.TermTrap, Arg: 8, To: [2]int{1, 0}, Trap: 5}} {
		wantTrim(t, "any end", blocks(e), blocks(e))
	}
}

func TestTrimOrdersBlocks(t *testing.T) {
	// 0, 2, 3, 1 becomes 0, 1, 2, 3.
	g := blocks(jump(2), back(3), fork(3, 1), jump(1))
	wantTrim(t, "turned", g, blocks(jump(1), fork(2, 3), jump(3), back(3)))
	// 0, 1, 3, 2: the loop's body stands last.
	wantTrim(t, "a loop", blocks(jump(1), fork(2, 3), jump(1), back(3)), blocks(jump(1), fork(3, 2), back(3), jump(1)))
	// Not reached: 1 and 3; 4 becomes 1, 2 becomes 2.
	wantTrim(t, "less", blocks(fork(2, 4), jump(2), back(3), jump(4), jump(2)), blocks(fork(2, 1), jump(2), back(3)))
	wantTrim(t, "one is left", blocks(back(3), jump(2), jump(1)), blocks(back(3)))
	// Both To of a branch the same, the entry, and a block itself.
	wantTrim(t, "one twice", blocks(fork(2, 2), back(3), fork(0, 2)), blocks(fork(1, 1), fork(0, 1)))
}

// What is no block stays as it stands, and so does what an end does not name.
func TestTrimLeavesWhatIsNoBlock(t *testing.T) {
	for _, n := range strays(3) {
		wantTrim(t, "a jump", blocks(fork(2, 2), back(3), jump(n)), blocks(fork(1, 1), jump(n)))
		wantTrim(t, "a branch", blocks(fork(2, n), back(3), fork(n, 2)), blocks(fork(1, n), fork(n, 1)))
		wantTrim(t, "a jump's To[1]", blocks(api.Term{Kind: api.TermJump, To: [2]int{2, n}}, back(3), back(3)), blocks(api.Term{Kind: api.TermJump, To: [2]int{1, n}}, back(3)))
	}
	wantTrim(t, "ends that name nothing", blocks(fork(2, 2), back(3), api.Term{Kind: api.TermReturn, To: [2]int{2, 1}}), blocks(fork(1, 1), api.Term{Kind: api.TermReturn, To: [2]int{2, 1}}))
	wantTrim(t, "a jump's To[1]", blocks(api.Term{Kind: api.TermJump, Arg: 5, To: [2]int{2, 2}, Trap: 4}, back(3), back(3)), blocks(api.Term{Kind: api.TermJump, Arg: 5, To: [2]int{1, 2}, Trap: 4}, back(3)))
}

// crossed is a graph whose block 4 has the blocks 1, 2, 3, 5 ahead, of which 2 is not reached; in the new order they are 5, 3, 1.
func crossed(ins ...api.Ins) api.Graph {
	g := blocks(fork(1, 3), fork(4, 4), jump(4), fork(4, 5), back(3), jump(4))
	g.Blocks[4].Ins = ins
	return g
}

func TestTrimKeepsPhisArguments(t *testing.T) {
	g := crossed()
	wantList(t, "Ahead", graph.Ahead(g)[4], 1, 2, 3, 5)
	wantList(t, "Order", graph.Order(g), 0, 3, 5, 1, 4)
	for _, c := range []struct{ args, want []int }{
		{[]int{11, 12, 13, 15}, []int{13, 15, 11}},
		// Too many, and too few: of these a block has none.
		{[]int{11, 12, 13, 15, 16, 17}, []int{13, 15, 11}},
		{[]int{11, 12, 13}, []int{13, 11}},
		{[]int{11, 12}, []int{11}},
		{[]int{11}, []int{11}},
		{nil, nil},
		{[]int{-1, math.MaxInt, math.MinInt, 0}, []int{math.MinInt, 0, -1}},
	} {
		x := api.Ins{Kind: api.InsPhi, Op: 4, Dst: 9, Args: c.args, Bits: 5, Ref: 6}
		y := x
		y.Args = c.want
		// Wherever phis stand, and what stands about them.
		around := api.Ins{Kind: api.InsCall, Dst: 3, Args: []int{1, 2, 3, 4, 5}}
		want := blocks(fork(3, 1), fork(4, 2), jump(4), fork(4, 4), back(3))
		want.Blocks[4].Ins = []api.Ins{y, around, y, y}
		wantTrim(t, "phis", crossed(x, around, x, x), want)
	}
}

// A phi in the entry has arguments for the blocks that lead there; one in a block that has none ahead has none.
func TestTrimOfOddPhis(t *testing.T) {
	g := blocks(fork(1, 3), jump(0), jump(0), jump(0))
	g.Blocks[0].Ins = []api.Ins{phi(1, 11, 12, 13)}
	want := blocks(fork(2, 1), jump(0), jump(0))
	want.Blocks[0].Ins = []api.Ins{phi(1, 13, 11)}
	wantTrim(t, "in the entry", g, want)
	g = blocks(back(3))
	g.Blocks[0].Ins = []api.Ins{phi(1, 11, 12, 13)}
	want = blocks(back(3))
	want.Blocks[0].Ins = []api.Ins{phi(1)}
	wantTrim(t, "nothing ahead", g, want)
	// A branch whose two blocks are the same is one edge, with one argument.
	g = blocks(fork(2, 2), fork(2, 2), back(3))
	g.Blocks[2].Ins = []api.Ins{phi(1, 10, 11)}
	want = blocks(fork(1, 1), back(3))
	want.Blocks[1].Ins = []api.Ins{phi(1, 10)}
	wantTrim(t, "one edge", g, want)
	// A loop's own block is ahead of it.
	g = blocks(jump(2), jump(2), fork(2, 3), back(3))
	g.Blocks[2].Ins = []api.Ins{phi(1, 10, 11, 12)}
	want = blocks(jump(1), fork(1, 2), back(3))
	want.Blocks[1].Ins = []api.Ins{phi(1, 10, 12)}
	wantTrim(t, "itself", g, want)
}

// A phi of as many arguments as there can be blocks.
func TestTrimOfGreatPhis(t *testing.T) {
	const n = 1 << 18
	g := row(n, func(i int) api.Term { return fork(i+1, n-1) })
	args := make([]int, n-1)
	for i := range args {
		args[i] = i * 7
	}
	g.Blocks[n-1].Ins = []api.Ins{phi(1, args...), phi(2, args[:n/2]...)}
	h := graph.Trim(g)
	if len(h.Blocks) != n || !slices.Equal(h.Blocks[n-1].Ins[0].Args, args) || !slices.Equal(h.Blocks[n-1].Ins[1].Args, args[:n/2]) {
		t.Error("a row of blocks that all lead to the last one is not trimmed to itself")
	}
	// Cut off behind the half: the rest is not reached.
	g.Blocks[n/2].Term = jump(n - 1)
	h = graph.Trim(g)
	if len(h.Blocks) != n/2+2 || !slices.Equal(h.Blocks[n/2+1].Ins[0].Args, args[:n/2+1]) || !slices.Equal(h.Blocks[n/2+1].Ins[1].Args, args[:n/2]) {
		t.Error("a row that is cut off is not trimmed to its half")
	}
}
