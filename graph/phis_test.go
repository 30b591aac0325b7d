package graph_test

import (
	"testing"

	"smithy/api"
)

// The variables that the phis of these tests set, two of each of two types.
var (
	a, a2 = one(api.I64), other(api.I64)
	b, b2 = one(api.U8), other(api.U8)
)

// joined is a graph whose last block, 3, has two blocks ahead (1 and 2), and these instructions.
func joined(ins ...api.Ins) api.Graph {
	g := blocks(fork(1, 2), jump(3), jump(3), trap(1))
	g.Vars = append(g.Vars, types...)
	g.Blocks[3].Ins = ins
	return g
}

func TestPhisAtTheHead(t *testing.T) {
	wantRight(t, "one", joined(phi(a, a, a2)))
	wantRight(t, "two", joined(phi(a, a2, a), phi(a2, a, a2)))
	wantRight(t, "of two types", joined(phi(a, a2, a), phi(b, b, b2), phi(b2, b, b)))
	wantRight(t, "ahead of others", joined(phi(a, a2, a), phi(b, b, b2), show(a), show(b)))
	wantWrong(t, "behind a print", joined(show(a), phi(a, a, a2)))
	wantWrong(t, "between", joined(phi(b, b, b2), show(a), phi(a, a, a2)))
	wantWrong(t, "behind a constant", joined(api.Ins{Kind: api.InsConst, Dst: a}, phi(a, a, a2), show(a)))
	wantWrong(t, "behind many", joined(phi(b, b, b2), phi(a2, a2, a2), show(a), show(a), show(a), phi(a, a, a2), show(a)))
	wantWrong(t, "of no variable", joined(phi(a, a, variables)))
	wantWrong(t, "of two types", joined(phi(a, a, b)))
}

func TestNumberOfPhisArguments(t *testing.T) {
	for n := range 6 {
		args := make([]int, n)
		for i := range args {
			args[i] = a2
		}
		for _, g := range []api.Graph{joined(phi(a, args...)), joined(phi(a2, a, a2), phi(a, args...)), joined(phi(a, args...), phi(a2, a, a2))} {
			if n == 2 {
				wantRight(t, "two arguments", g)
			} else {
				wantWrong(t, "another number", g)
			}
		}
		// Four blocks ahead, two of them not reached, the block itself, and one edge of a branch whose blocks are the same.
		g := blocks(jump(1), fork(1, 2), jump(1), fork(1, 1))
		g.Blocks[1].Ins = []api.Ins{phi(b, make([]int, 0)...)}
		for range n {
			g.Blocks[1].Ins[0].Args = append(g.Blocks[1].Ins[0].Args, b)
		}
		if n == 4 {
			wantRight(t, "four blocks ahead", g)
		} else {
			wantWrong(t, "four blocks ahead", g)
		}
	}
}

// A block that nothing leads to may have phis, of no arguments.
func TestPhisWithoutBlocksAhead(t *testing.T) {
	g := blocks(trap(1), trap(1))
	g.Blocks[1].Ins = []api.Ins{phi(a), phi(b)}
	wantRight(t, "no arguments", g)
	g.Blocks[1].Ins = []api.Ins{phi(a), phi(b, b)}
	wantWrong(t, "an argument", g)
	g.Blocks[1].Ins = []api.Ins{phi(a), phi(a)}
	wantWrong(t, "two with one Dst", g)
}

func TestPhisInTheEntry(t *testing.T) {
	wantWrong(t, "no arguments", host(phi(a)))
	wantWrong(t, "one argument", host(phi(a, a)))
	wantWrong(t, "behind another", host(show(a), phi(a)))
	g := joined(phi(a, a, a))
	g.Blocks[0].Ins = []api.Ins{phi(b)}
	wantWrong(t, "beside one that may stand", g)
}

func TestPhisWithOneDst(t *testing.T) {
	wantWrong(t, "one behind the other", joined(phi(a, a, a2), phi(a, a, a2)))
	wantWrong(t, "with others between", joined(phi(a, a, a2), phi(b, b, b), phi(a2, a, a2), phi(a, a2, a2)))
	wantWrong(t, "the first variable", joined(phi(0, 0, 0), phi(0, 0, 0)))
	// Phis of two blocks may have one, and so may a phi and another instruction.
	g := joined(phi(a, a, a2), phi(0, 0, 0), api.Ins{Kind: api.InsConst, Dst: a, Bits: 1})
	g.Blocks[1].Ins = []api.Ins{phi(a, a2), phi(0, 0)}
	g.Blocks[2].Ins = []api.Ins{phi(a, a), phi(0, 0)}
	wantRight(t, "in three blocks", g)
	// And so may a phi and a parameter.
	g.Params = []int{a, 0}
	wantRight(t, "parameters", g)
	g.Blocks[2].Ins = append(g.Blocks[2].Ins, phi(a, a))
	wantWrong(t, "in one of three blocks twice", g)
}
