package fold_test

import (
	"math"
	"reflect"
	"slices"
	"strings"
	"testing"

	"smithy/api"
	"smithy/fold"
	"smithy/graph"
	"smithy/run"
	"smithy/scalar"
	"smithy/sccp"
	"smithy/ssa"
)

var types = []api.Type{api.Bool, api.U8, api.I32, api.I64, api.F64}

// strays are numbers that are no place in a list of that length: below 0, one too many, far too great.
func strays(length int) []int {
	return []int{-1, length, length + 1, 1 << 32, math.MaxInt, math.MinInt, -1 << 32, -2}
}

// Instructions and ends.

func phi(dst int, args ...int) api.Ins { return api.Ins{Kind: api.InsPhi, Dst: dst, Args: args} }

func number(dst int, word uint64) api.Ins {
	return api.Ins{Kind: api.InsConst, Dst: dst, Bits: word}
}

func copyOf(dst, arg int) api.Ins { return api.Ins{Kind: api.InsCopy, Dst: dst, Args: row(arg)} }

func op(o api.Op, dst int, args ...int) api.Ins {
	return api.Ins{Kind: api.InsOp, Op: o, Dst: dst, Args: args}
}

func not(dst, arg int) api.Ins { return op(api.OpNot, dst, arg) }

func cast(dst, arg int) api.Ins { return api.Ins{Kind: api.InsCast, Dst: dst, Args: row(arg)} }

func load(dst, array, index int) api.Ins {
	return api.Ins{Kind: api.InsLoad, Dst: dst, Ref: array, Args: row(index)}
}

func store(array, index, arg int) api.Ins {
	return api.Ins{Kind: api.InsStore, Ref: array, Args: row(index, arg)}
}

func wipe(array int) api.Ins { return api.Ins{Kind: api.InsClear, Ref: array} }

func call(ref, dst int, args ...int) api.Ins {
	return api.Ins{Kind: api.InsCall, Ref: ref, Dst: dst, Args: args}
}

func show(arg int) api.Ins { return api.Ins{Kind: api.InsPrint, Args: row(arg)} }

func jump(to int) api.Term { return api.Term{Kind: api.TermJump, To: [2]int{to, 0}} }

func branch(arg, to, other int) api.Term {
	return api.Term{Kind: api.TermBranch, Arg: arg, To: [2]int{to, other}}
}

func back(arg int) api.Term { return api.Term{Kind: api.TermReturn, Arg: arg} }

func trap(n api.Trap) api.Term { return api.Term{Kind: api.TermTrap, Trap: n} }

func block(end api.Term, ins ...api.Ins) api.Block { return api.Block{Ins: ins, Term: end} }

func row(vars ...int) []int { return vars }

// graphOf is a graph whose variables are of one type, the first ones its parameters, and which tells one of that type.
func graphOf(t api.Type, params, vars int, blocks ...api.Block) api.Graph {
	return api.Graph{Name: "g", Params: counted(0, params), Result: t, Vars: slices.Repeat([]api.Type{t}, vars), Blocks: blocks}
}

// truths is a graph of variables of the type Bool: so that each may stand wherever a variable is asked or set.
func truths(params, vars int, blocks ...api.Block) api.Graph {
	return graphOf(api.Bool, params, vars, blocks...)
}

// withBlocks is a graph with other blocks.
func withBlocks(g api.Graph, blocks ...api.Block) api.Graph {
	g.Blocks = blocks
	return g
}

// with is a program with another graph at f.
func with(p []api.Graph, f int, g api.Graph) []api.Graph {
	q := slices.Clone(p)
	q[f] = g
	return q
}

func alone(g api.Graph) []api.Graph { return []api.Graph{g} }

// Facts.

var unseen, varying = api.Cell{}, api.Cell{Kind: api.Varying}

func known(word uint64) api.Cell { return api.Cell{Kind: api.Known, Bits: word} }

// factsOf is facts with these cells; which blocks are reached is written as 1 and 0, a block's edges likewise, with a blank ahead of the next block's.
func factsOf(reached, edges string, cells ...api.Cell) api.Facts {
	x := api.Facts{Cells: cells}
	for _, c := range reached {
		x.Reached = append(x.Reached, c == '1')
	}
	for _, two := range strings.Fields(edges) {
		x.Edges = append(x.Edges, [2]bool{two[0] == '1', two[1] == '1'})
	}
	return x
}

func sameFacts(a, b api.Facts) bool {
	return slices.Equal(a.Cells, b.Cells) && slices.Equal(a.Reached, b.Reached) && slices.Equal(a.Edges, b.Edges)
}

// copiedFacts is facts of their own.
func copiedFacts(x api.Facts) api.Facts {
	return api.Facts{Cells: slices.Clone(x.Cells), Reached: slices.Clone(x.Reached), Edges: slices.Clone(x.Edges)}
}

// highest is facts that say nothing: all is Varying, all blocks are reached, by all edges.
func highest(g api.Graph) api.Facts {
	n := len(g.Blocks)
	return api.Facts{Cells: slices.Repeat([]api.Cell{varying}, len(g.Vars)), Reached: slices.Repeat([]bool{true}, n), Edges: slices.Repeat([][2]bool{{true, true}}, n)}
}

// lowest is the least facts of a graph of a program.
func lowest(t *testing.T, what string, p []api.Graph, f int) api.Facts {
	t.Helper()
	x, e := sccp.Solve(p, f)
	if e != api.OK {
		t.Fatalf("%s: Solve of %v, %d is refused with %d", what, p, f, e)
	}
	return x
}

// Graphs.

// sameGraph tells whether two graphs are the same: an empty list and none are.
func sameGraph(a, b api.Graph) bool { return reflect.DeepEqual(plain(a), plain(b)) }

// plain is a graph of its own without empty lists.
func plain(g api.Graph) api.Graph {
	g = copied(g)
	g.Params, g.Vars, g.Arrays, g.Blocks = noneIfEmpty(g.Params), noneIfEmpty(g.Vars), noneIfEmpty(g.Arrays), noneIfEmpty(g.Blocks)
	for i, b := range g.Blocks {
		for j, x := range b.Ins {
			b.Ins[j].Args = noneIfEmpty(x.Args)
		}
		g.Blocks[i].Ins = noneIfEmpty(b.Ins)
	}
	return g
}

func noneIfEmpty[T any](l []T) []T {
	if len(l) == 0 {
		return nil
	}
	return l
}

// copied is a graph of its own.
func copied(g api.Graph) api.Graph {
	g.Params, g.Vars, g.Arrays, g.Blocks = slices.Clone(g.Params), slices.Clone(g.Vars), slices.Clone(g.Arrays), slices.Clone(g.Blocks)
	for i := range g.Blocks {
		ins := slices.Clone(g.Blocks[i].Ins)
		for j := range ins {
			ins[j].Args = slices.Clone(ins[j].Args)
		}
		g.Blocks[i].Ins = ins
	}
	return g
}

func copiedAll(p []api.Graph) []api.Graph {
	p = slices.Clone(p)
	for i := range p {
		p[i] = copied(p[i])
	}
	return p
}

// counted is the numbers from one on, ahead of another.
func counted(from, end int) []int {
	l := make([]int, 0, max(end-from, 0))
	for i := from; i < end; i++ {
		l = append(l, i)
	}
	return l
}

// What is wanted.

// wantRefused asks for an error alone.
func wantRefused(t *testing.T, what string, want api.Errno, p []api.Graph, f int, x api.Facts) {
	t.Helper()
	if g, e := fold.Apply(p, f, x); e != want || !reflect.DeepEqual(g, api.Graph{}) {
		t.Errorf("%s: Apply of %d graphs, %d, %v tells %v, %d; want %d alone", what, len(p), f, x, g, e, want)
	}
}

// wantApplied asks for all that is promised of a graph that is told, but for what runs of it show.
func wantApplied(t *testing.T, what string, p []api.Graph, f int, x api.Facts) api.Graph {
	t.Helper()
	g, e := fold.Apply(p, f, x)
	if e != api.OK {
		t.Fatalf("%s: Apply of %v, %d, %v is refused with %d", what, p, f, x, e)
	}
	if !sameFace(p[f], g) {
		t.Fatalf("%s: by %v %v becomes %v, which has another face", what, x, p[f], g)
	}
	if !ssa.Is(g) {
		t.Fatalf("%s: by %v %v becomes %v, which is not set once", what, x, p[f], g)
	}
	if e, at := graph.Check(with(p, f, g)); e != api.OK {
		t.Fatalf("%s: by %v %v becomes %v: Check tells %d, %d", what, x, p[f], g, e, at)
	}
	return g
}

func sameFace(a, b api.Graph) bool {
	if len(a.Params) != len(b.Params) {
		return false
	}
	for i := range a.Params {
		if a.Vars[a.Params[i]] != b.Vars[b.Params[i]] {
			return false
		}
	}
	return a.Name == b.Name && a.Result == b.Result && slices.Equal(a.Arrays, b.Arrays)
}

// wantKept asks for all that is promised of a graph that is told by any facts that hold: its runs, too, for some words, steps and depths.
func wantKept(t *testing.T, what string, p []api.Graph, f int, x api.Facts) api.Graph {
	t.Helper()
	g := wantApplied(t, what, p, f, x)
	q := with(p, f, g)
	for from := range p {
		for _, seed := range []uint64{0, 1, 0x923456789abcdef3} {
			for _, limit := range [][2]int{{40, 4}, {7, 2}, {3, 1}, {1, 3}} {
				wantKeptRun(t, what, p, q, from, wordsFor(p[from], seed), limit[0], limit[1])
			}
		}
	}
	return g
}

// wantFolded asks for all that is promised of a graph that is told by its least facts.
func wantFolded(t *testing.T, what string, p []api.Graph, f int) api.Graph {
	t.Helper()
	g := wantKept(t, what, p, f, lowest(t, what, p, f))
	if q := with(p, f, g); !isFolded(g, lowest(t, what, q, f)) {
		t.Fatalf("%s: %v becomes %v, which is not folded: %v", what, p[f], g, lowest(t, what, q, f))
	}
	return g
}

// wantBecome asks for just these blocks of a graph alone, by its least facts; all else is as it was.
func wantBecome(t *testing.T, what string, g api.Graph, blocks ...api.Block) {
	t.Helper()
	if h := wantFolded(t, what, alone(g), 0); !sameGraph(h, withBlocks(g, blocks...)) {
		t.Errorf("%s: %v becomes %v; want %v", what, g, h, withBlocks(g, blocks...))
	}
}

// wantBecomeBy asks for just these blocks of a graph alone, by facts that hold.
func wantBecomeBy(t *testing.T, what string, g api.Graph, x api.Facts, blocks ...api.Block) {
	t.Helper()
	if h := wantKept(t, what, alone(g), 0, x); !sameGraph(h, withBlocks(g, blocks...)) {
		t.Errorf("%s: by %v %v becomes %v; want %v", what, x, g, h, withBlocks(g, blocks...))
	}
}

// wantKeptRun asks that a run of a graph of two programs is kept, in no more steps; it tells how the first one ended.
func wantKeptRun(t *testing.T, what string, p, q []api.Graph, f int, args []uint64, steps, depth int) api.Trace {
	t.Helper()
	a, e := run.Run(p, f, args, steps, depth)
	b, d := run.Run(q, f, args, steps, depth)
	if e != api.OK || d != api.OK || !isKept(a, b) {
		t.Fatalf("%s: %v has become %v: the graph %d of %v with %d steps, depth %d shows %v, %d; it showed %v, %d", what, p, q, f, args, steps, depth, b, d, a, e)
	}
	return a
}

// wordsFor is words for a graph's parameters.
func wordsFor(g api.Graph, seed uint64) []uint64 {
	var args []uint64
	for i, v := range g.Params {
		args = append(args, scalar.Cut(g.Vars[v], seed*uint64(i+1)>>(i%3)))
	}
	return args
}
