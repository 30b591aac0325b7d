package graph_test

import (
	"math"
	"slices"
	"testing"

	"smithy/api"
)

func TestNumberOfGraphs(t *testing.T) {
	var p []api.Graph
	wantRight(t, "none", p...)
	for range api.MaxFuncs {
		p = append(p, host(call(0, one(api.I64), other(api.I64))))
	}
	p[0] = host(call(63, one(api.I64), other(api.I64)))
	wantRight(t, "64", p...)
	wantCheck(t, "65", api.ErrLong, 0, append(p, host())...)
	wantCheck(t, "1000", api.ErrLong, 0, make([]api.Graph, 1000)...)
	// Ahead of all that is not right.
	p[0].Blocks = nil
	wantCheck(t, "65, of which one is not right", api.ErrLong, 0, append(p, host())...)
	wantCheck(t, "64, of which one is not right", api.ErrShape, 0, p...)
	p[0] = host(call(64, one(api.I64), other(api.I64)))
	wantCheck(t, "a call of the 65th of 65", api.ErrLong, 0, append(p, host())...)
	wantCheck(t, "a call of the 65th of 64", api.ErrShape, 0, p...)
}

// The first one that is not right is told, wherever others stand.
func TestFirstGraphThatIsNotRight(t *testing.T) {
	const n = 6
	for i := range n {
		p := make([]api.Graph, n)
		for j := range p {
			p[j] = host()
		}
		p[i].Result = api.NoType
		wantCheck(t, "one", api.ErrShape, i, p...)
		for j := i; j < n; j++ {
			p[j].Blocks = nil
			wantCheck(t, "several", api.ErrShape, i, p...)
		}
	}
	// A call is wrong where it stands, not where it leads.
	wantCheck(t, "a call of a later one", api.ErrShape, 1, host(), host(call(2, one(api.I64))), host())
	wantCheck(t, "a call of an earlier one", api.ErrShape, 2, host(), host(), host(call(0, one(api.I64))))
}

func TestTypesOfGraphs(t *testing.T) {
	for _, u := range types {
		g := blocks(back(one(u)))
		g.Result = u
		wantRight(t, "a result", g)
		g.Arrays = []api.Array{{Type: u, Size: 1}}
		wantRight(t, "an array", g)
	}
	for _, none := range noTypes {
		g := blocks(trap(1))
		g.Result = none
		wantWrong(t, "a result of no type", host(), g)
		for i := range types {
			g = blocks(trap(1))
			g.Vars[i] = none
			wantWrong(t, "a variable of no type", host(), g)
			g = host()
			g.Arrays[i].Type = none
			wantWrong(t, "an array of no type", host(), g)
		}
	}
	// A graph needs neither variables nor parameters, nor a name.
	wantRight(t, "bare", api.Graph{Result: api.U8, Blocks: []api.Block{{Term: trap(2)}}})
}

func TestSizesOfArrays(t *testing.T) {
	for i := range types {
		for _, size := range []int{1, 2, 255, api.MaxArray} {
			g := host()
			g.Arrays[i].Size = size
			wantRight(t, "a size", g)
		}
		for _, size := range []int{0, -1, api.MaxArray + 1, 1 << 32, math.MaxInt, math.MinInt} {
			g := host()
			g.Arrays[i].Size = size
			wantWrong(t, "a size beyond", host(), g)
		}
	}
}

func TestParams(t *testing.T) {
	g := host()
	g.Params = []int{9, 1, 8, 2, 7, 3, 6, 4}
	wantRight(t, "eight parameters", g)
	g.Params = append(g.Params, 5)
	wantWrong(t, "nine parameters", g)
	for i := range api.MaxParams {
		for _, v := range strays(variables) {
			g.Params = []int{9, 1, 8, 2, 7, 3, 6, 4}
			g.Params[i] = v
			wantWrong(t, "a parameter that is no variable", g)
		}
		for j := range i {
			g.Params = []int{9, 1, 8, 2, 7, 3, 6, 4}
			g.Params[i] = g.Params[j]
			wantWrong(t, "a parameter twice", g)
		}
	}
	g.Params = nil
	wantRight(t, "no parameter", g)
	g = api.Graph{Params: []int{0}, Result: api.U8, Blocks: []api.Block{{Term: trap(2)}}}
	wantWrong(t, "a parameter without variables", g)
}

// At the limit, and one over; blocks, variables and arrays count each by itself.
func TestGreatestGraphs(t *testing.T) {
	const most = 1 << 20
	bare := api.Graph{Result: api.I64, Vars: []api.Type{api.I64}, Blocks: []api.Block{{Term: back(0)}}}
	g := bare
	g.Vars = slices.Repeat([]api.Type{api.I64}, most+1)
	g.Blocks = []api.Block{{Ins: []api.Ins{{Kind: api.InsCopy, Dst: most - 1, Args: []int{most - 1}}}, Term: back(most - 1)}}
	wantWrong(t, "one variable over", g)
	g.Vars = g.Vars[:most]
	wantRight(t, "as many variables as may be", g)
	g = bare
	g.Arrays = slices.Repeat([]api.Array{{Type: api.F64, Size: 256}}, most+1)
	g.Blocks = []api.Block{{Ins: []api.Ins{{Kind: api.InsClear, Ref: most - 1}}, Term: back(0)}}
	wantWrong(t, "one array over", g)
	g.Arrays = g.Arrays[:most]
	wantRight(t, "as many arrays as may be", g)
	g = bare
	g.Blocks = slices.Repeat([]api.Block{{Term: jump(most - 1)}}, most+1)
	wantWrong(t, "one block over", g)
	g.Blocks = g.Blocks[:most]
	wantRight(t, "as many blocks as may be", g)
	// A phi for each block that leads to it.
	g.Blocks[most-1] = api.Block{Ins: []api.Ins{phi(0, make([]int, most)...)}, Term: jump(most - 1)}
	wantRight(t, "a phi of as many arguments as may be", g)
	g.Blocks[most-1].Ins[0].Args = make([]int, most-1)
	wantWrong(t, "a phi of one argument less", g)
}

// ends are right ones of a host with three more blocks.
var ends = []api.Term{jump(1), jump(3), fork(1, 2), fork(3, 3), branch(other(api.Bool), 2, 1), back(one(api.I64)), back(other(api.I64)), trap(1), trap(2), trap(3)}

// ended is a graph of four blocks, one of which has this end.
func ended(at int, end api.Term) api.Graph {
	g := host()
	for range 3 {
		g.Blocks = append(g.Blocks, api.Block{Term: trap(1)})
	}
	g.Blocks[at].Term = end
	return g
}

func TestEnds(t *testing.T) {
	for at := range 4 {
		for _, e := range ends {
			wantRight(t, "an end", ended(at, e))
			for _, k := range []api.TermKind{0, 5, 6, 255} {
				e.Kind = k
				wantWrong(t, "an end of no kind", ended(at, e))
			}
		}
		wantWrong(t, "no end", ended(at, api.Term{}))
		wantRight(t, "a block that leads to itself", ended(3, jump(3)), ended(3, fork(3, 3)))
	}
}

// Each field that a kind of end has not must be 0.
func TestFieldsThatAnEndHasNot(t *testing.T) {
	for at := range 4 {
		for _, e := range ends {
			for _, n := range append(strays(4), 1, 3) {
				x := e
				if x.Arg = n; e.Kind == api.TermJump || e.Kind == api.TermTrap {
					wantWrong(t, "an Arg", ended(at, x))
				}
				x = e
				if x.To[1] = n; e.Kind != api.TermBranch {
					wantWrong(t, "a To[1]", ended(at, x))
				}
				x = e
				if x.To[0] = n; e.Kind == api.TermReturn || e.Kind == api.TermTrap {
					wantWrong(t, "a To[0]", ended(at, x))
				}
			}
			for _, n := range []api.Trap{1, 2, 3, 4, 255} {
				x := e
				if x.Trap = n; e.Kind != api.TermTrap {
					wantWrong(t, "a Trap", ended(at, x))
				}
			}
		}
	}
}

func TestWhatEndsName(t *testing.T) {
	for at := range 4 {
		// 0 is the entry.
		for _, to := range append(strays(4), 0) {
			wantWrong(t, "a jump to no block", ended(at, jump(to)))
			wantWrong(t, "a branch to no block", ended(at, fork(to, 1)))
			wantWrong(t, "a branch, else to no block", ended(at, fork(1, to)))
			wantWrong(t, "a branch to no block either way", ended(at, fork(to, to)))
		}
		for _, v := range strays(variables) {
			wantWrong(t, "a branch on no variable", ended(at, branch(v, 1, 2)))
			wantWrong(t, "no variable is told", ended(at, back(v)))
		}
		for _, u := range types {
			for _, v := range []int{one(u), other(u)} {
				if g := ended(at, branch(v, 1, 2)); u == api.Bool {
					wantRight(t, "a branch on a truth", g)
				} else {
					wantWrong(t, "a branch on no truth", g)
				}
				if g := ended(at, back(v)); u == api.I64 {
					wantRight(t, "what is told is of the type Result", g)
				} else {
					wantWrong(t, "what is told is not of the type Result", g)
				}
			}
		}
		for _, n := range []api.Trap{0, 4, 5, 255} {
			wantWrong(t, "a trap that is none", ended(at, trap(n)))
		}
	}
}

// An instruction is looked at in whichever block it stands, reached or not, first or last.
func TestEachInstructionIsLookedAt(t *testing.T) {
	for at := range 4 {
		for place := range 5 {
			g := ended(0, fork(1, 2))
			g.Blocks[at].Ins = slices.Repeat([]api.Ins{show(one(api.I64))}, 5)
			wantRight(t, "prints", g)
			g.Blocks[at].Ins[place] = show(variables)
			wantWrong(t, "a print of no variable", g)
		}
	}
}
