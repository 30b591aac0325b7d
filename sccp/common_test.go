package sccp_test

import (
	"math"
	"slices"
	"strings"
	"testing"

	"smithy/api"
	"smithy/sccp"
)

var types = []api.Type{api.Bool, api.U8, api.I32, api.I64, api.F64}

// strays are numbers that are no place in a list of that length: below 0, one too many, far too great.
func strays(length int) []int {
	return []int{-1, length, length + 1, 1 << 32, math.MaxInt, math.MinInt, -1 << 32, -2}
}

// Instructions and ends.

func phi(dst int, args ...int) api.Ins { return api.Ins{Kind: api.InsPhi, Dst: dst, Args: args} }

func number(dst int, word uint64) api.Ins {
	return api.Ins{Kind: api.InsConst, Dst: dst, Bits: word}
}

func copyOf(dst, arg int) api.Ins { return api.Ins{Kind: api.InsCopy, Dst: dst, Args: row(arg)} }

func op(o api.Op, dst int, args ...int) api.Ins {
	return api.Ins{Kind: api.InsOp, Op: o, Dst: dst, Args: args}
}

func not(dst, arg int) api.Ins { return op(api.OpNot, dst, arg) }

func cast(dst, arg int) api.Ins { return api.Ins{Kind: api.InsCast, Dst: dst, Args: row(arg)} }

func load(dst, array, index int) api.Ins {
	return api.Ins{Kind: api.InsLoad, Dst: dst, Ref: array, Args: row(index)}
}

func store(array, index, arg int) api.Ins {
	return api.Ins{Kind: api.InsStore, Ref: array, Args: row(index, arg)}
}

func wipe(array int) api.Ins { return api.Ins{Kind: api.InsClear, Ref: array} }

func call(ref, dst int, args ...int) api.Ins {
	return api.Ins{Kind: api.InsCall, Ref: ref, Dst: dst, Args: args}
}

func show(arg int) api.Ins { return api.Ins{Kind: api.InsPrint, Args: row(arg)} }

func jump(to int) api.Term { return api.Term{Kind: api.TermJump, To: [2]int{to, 0}} }

func branch(arg, to, other int) api.Term {
	return api.Term{Kind: api.TermBranch, Arg: arg, To: [2]int{to, other}}
}

func back(arg int) api.Term { return api.Term{Kind: api.TermReturn, Arg: arg} }

func trap(n api.Trap) api.Term { return api.Term{Kind: api.TermTrap, Trap: n} }

func block(end api.Term, ins ...api.Ins) api.Block { return api.Block{Ins: ins, Term: end} }

func row(vars ...int) []int { return vars }

// graphOf is a graph whose variables are of one type, the first ones its parameters, and which tells one of that type.
func graphOf(t api.Type, params, vars int, blocks ...api.Block) api.Graph {
	return api.Graph{Name: "g", Params: counted(0, params), Result: t, Vars: slices.Repeat([]api.Type{t}, vars), Blocks: blocks}
}

// truths is a graph of variables of the type Bool: so that each may stand wherever a variable is asked or set.
func truths(params, vars int, blocks ...api.Block) api.Graph {
	return graphOf(api.Bool, params, vars, blocks...)
}

// Facts.

var unseen, varying = api.Cell{}, api.Cell{Kind: api.Varying}

func known(word uint64) api.Cell { return api.Cell{Kind: api.Known, Bits: word} }

// factsOf is facts with these cells; which blocks are reached is written as 1 and 0, a block's edges likewise, with a blank ahead of the next block's.
func factsOf(reached, edges string, cells ...api.Cell) api.Facts {
	x := api.Facts{Cells: cells}
	for _, c := range reached {
		x.Reached = append(x.Reached, c == '1')
	}
	for _, two := range strings.Fields(edges) {
		x.Edges = append(x.Edges, [2]bool{two[0] == '1', two[1] == '1'})
	}
	return x
}

func sameFacts(a, b api.Facts) bool {
	return slices.Equal(a.Cells, b.Cells) && slices.Equal(a.Reached, b.Reached) && slices.Equal(a.Edges, b.Edges)
}

// copiedFacts is facts of their own.
func copiedFacts(x api.Facts) api.Facts {
	return api.Facts{Cells: slices.Clone(x.Cells), Reached: slices.Clone(x.Reached), Edges: slices.Clone(x.Edges)}
}

func isNothing(x api.Facts) bool { return len(x.Cells)+len(x.Reached)+len(x.Edges) == 0 }

// wantSolved asks for all that is promised of a graph's facts, but for what runs of it show.
func wantSolved(t *testing.T, what string, p []api.Graph, f int) api.Facts {
	t.Helper()
	x, e := sccp.Solve(p, f)
	if e != api.OK {
		t.Fatalf("%s: Solve of %v, %d is refused with %d", what, p, f, e)
	}
	if want := least(p[f]); !sameFacts(x, want) {
		t.Fatalf("%s: Solve of %v tells %v; want %v", what, p[f], x, want)
	}
	if !sccp.Holds(p, f, x) || !isHolding(p[f], x) {
		t.Fatalf("%s: %v do not hold of %v", what, x, p[f])
	}
	return x
}

// wantFacts asks for just these least facts of a graph alone.
func wantFacts(t *testing.T, what string, g api.Graph, want api.Facts) {
	t.Helper()
	if x := wantSolved(t, what, []api.Graph{g}, 0); !sameFacts(x, want) {
		t.Errorf("%s: Solve of %v tells %v; want %v", what, g, x, want)
	}
}

// wantCells asks for just these cells of a graph alone.
func wantCells(t *testing.T, what string, g api.Graph, want ...api.Cell) {
	t.Helper()
	if x := wantSolved(t, what, []api.Graph{g}, 0); !slices.Equal(x.Cells, want) {
		t.Errorf("%s: Solve of %v tells the cells %v; want %v", what, g, x.Cells, want)
	}
}

// wantHolds asks whether facts hold of a graph alone.
func wantHolds(t *testing.T, what string, want bool, g api.Graph, x api.Facts) {
	t.Helper()
	if isHolding(g, x) != want {
		t.Fatalf("%s: the test itself is wrong of %v, %v", what, g, x)
	}
	if got := sccp.Holds([]api.Graph{g}, 0, x); got != want {
		t.Errorf("%s: Holds of %v, %v tells %v", what, g, x, got)
	}
}

func wantRefused(t *testing.T, what string, want api.Errno, p []api.Graph, f int) {
	t.Helper()
	if x, e := sccp.Solve(p, f); e != want || !isNothing(x) {
		t.Errorf("%s: Solve of %d graphs, %d tells %v, %d; want %d alone", what, len(p), f, x, e, want)
	}
	some := []api.Facts{{}, factsOf("1", "00"), factsOf("1", "00", varying, varying), factsOf("11", "11 11", varying, varying), factsOf("11", "11 00", varying, unseen)}
	if 0 <= f && f < len(p) {
		some = append(some, highest(p[f]))
	}
	for _, x := range some {
		if sccp.Holds(p, f, x) {
			t.Errorf("%s: %v hold of %d graphs, %d", what, x, len(p), f)
		}
	}
}

// highest is facts that say nothing: all is Varying, all blocks are reached, by all edges.
func highest(g api.Graph) api.Facts {
	n := len(g.Blocks)
	return api.Facts{Cells: slices.Repeat([]api.Cell{varying}, len(g.Vars)), Reached: slices.Repeat([]bool{true}, n), Edges: slices.Repeat([][2]bool{{true, true}}, n)}
}

// copied is a graph of its own.
func copied(g api.Graph) api.Graph {
	g.Params, g.Vars, g.Arrays, g.Blocks = slices.Clone(g.Params), slices.Clone(g.Vars), slices.Clone(g.Arrays), slices.Clone(g.Blocks)
	for i := range g.Blocks {
		ins := slices.Clone(g.Blocks[i].Ins)
		for j := range ins {
			ins[j].Args = slices.Clone(ins[j].Args)
		}
		g.Blocks[i].Ins = ins
	}
	return g
}

func copiedAll(p []api.Graph) []api.Graph {
	p = slices.Clone(p)
	for i := range p {
		p[i] = copied(p[i])
	}
	return p
}

// counted is the numbers from one on, ahead of another.
func counted(from, end int) []int {
	l := make([]int, 0, max(end-from, 0))
	for i := from; i < end; i++ {
		l = append(l, i)
	}
	return l
}
