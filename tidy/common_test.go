package tidy_test

import (
	"math"
	"reflect"
	"slices"
	"testing"

	"smithy/api"
	"smithy/graph"
	"smithy/run"
	"smithy/scalar"
	"smithy/ssa"
	"smithy/tidy"
)

var types = []api.Type{api.Bool, api.U8, api.I32, api.I64, api.F64}

// strays are numbers that are no place in a list of that length: below 0, one too many, far too great.
func strays(length int) []int {
	return []int{-1, length, length + 1, 1 << 32, math.MaxInt, math.MinInt, -1 << 32, -2}
}

// Instructions and ends.

func phi(dst int, args ...int) api.Ins { return api.Ins{Kind: api.InsPhi, Dst: dst, Args: args} }

func number(dst int, word uint64) api.Ins {
	return api.Ins{Kind: api.InsConst, Dst: dst, Bits: word}
}

func copyOf(dst, arg int) api.Ins { return api.Ins{Kind: api.InsCopy, Dst: dst, Args: row(arg)} }

func op(o api.Op, dst int, args ...int) api.Ins {
	return api.Ins{Kind: api.InsOp, Op: o, Dst: dst, Args: args}
}

func not(dst, arg int) api.Ins { return op(api.OpNot, dst, arg) }

func cast(dst, arg int) api.Ins { return api.Ins{Kind: api.InsCast, Dst: dst, Args: row(arg)} }

func load(dst, array, index int) api.Ins {
	return api.Ins{Kind: api.InsLoad, Dst: dst, Ref: array, Args: row(index)}
}

func store(array, index, arg int) api.Ins {
	return api.Ins{Kind: api.InsStore, Ref: array, Args: row(index, arg)}
}

func wipe(array int) api.Ins { return api.Ins{Kind: api.InsClear, Ref: array} }

func call(ref, dst int, args ...int) api.Ins {
	return api.Ins{Kind: api.InsCall, Ref: ref, Dst: dst, Args: args}
}

func show(arg int) api.Ins { return api.Ins{Kind: api.InsPrint, Args: row(arg)} }

func jump(to int) api.Term { return api.Term{Kind: api.TermJump, To: [2]int{to, 0}} }

func branch(arg, to, other int) api.Term {
	return api.Term{Kind: api.TermBranch, Arg: arg, To: [2]int{to, other}}
}

func back(arg int) api.Term { return api.Term{Kind: api.TermReturn, Arg: arg} }

func trap(n api.Trap) api.Term { return api.Term{Kind: api.TermTrap, Trap: n} }

func block(end api.Term, ins ...api.Ins) api.Block { return api.Block{Ins: ins, Term: end} }

func row(vars ...int) []int { return vars }

// counted is the numbers from one on, ahead of another.
func counted(from, end int) []int {
	l := make([]int, 0, max(end-from, 0))
	for i := from; i < end; i++ {
		l = append(l, i)
	}
	return l
}

// graphOf is a graph whose variables are of one type, the first ones its parameters, and which tells one of that type.
func graphOf(t api.Type, params, vars int, blocks ...api.Block) api.Graph {
	return api.Graph{Name: "g", Params: counted(0, params), Result: t, Vars: slices.Repeat([]api.Type{t}, vars), Blocks: blocks}
}

// truths is a graph of variables of the type Bool: so that each may stand wherever a variable is asked or set.
func truths(params, vars int, blocks ...api.Block) api.Graph {
	return graphOf(api.Bool, params, vars, blocks...)
}

// typed is a graph of variables of some types, the first ones its parameters; it tells a word of the type of the variable 0.
func typed(params int, vars []api.Type, blocks ...api.Block) api.Graph {
	return api.Graph{Name: "g", Params: counted(0, params), Result: vars[0], Vars: vars, Blocks: blocks}
}

// withBlocks is a graph with other blocks.
func withBlocks(g api.Graph, blocks ...api.Block) api.Graph {
	g.Blocks = blocks
	return g
}

// with is a program with another graph at f.
func with(p []api.Graph, f int, g api.Graph) []api.Graph {
	q := slices.Clone(p)
	q[f] = g
	return q
}

func alone(g api.Graph) []api.Graph { return []api.Graph{g} }

// Graphs.

// sameGraph tells whether two graphs are the same: an empty list and none are.
func sameGraph(a, b api.Graph) bool { return reflect.DeepEqual(plain(a), plain(b)) }

// plain is a graph of its own without empty lists.
func plain(g api.Graph) api.Graph {
	g = copied(g)
	g.Params, g.Vars, g.Arrays, g.Blocks = noneIfEmpty(g.Params), noneIfEmpty(g.Vars), noneIfEmpty(g.Arrays), noneIfEmpty(g.Blocks)
	for i, b := range g.Blocks {
		for j, x := range b.Ins {
			b.Ins[j].Args = noneIfEmpty(x.Args)
		}
		g.Blocks[i].Ins = noneIfEmpty(b.Ins)
	}
	return g
}

func noneIfEmpty[T any](l []T) []T {
	if len(l) == 0 {
		return nil
	}
	return l
}

// copied is a graph of its own.
func copied(g api.Graph) api.Graph {
	g.Params, g.Vars, g.Arrays, g.Blocks = slices.Clone(g.Params), slices.Clone(g.Vars), slices.Clone(g.Arrays), slices.Clone(g.Blocks)
	for i := range g.Blocks {
		ins := slices.Clone(g.Blocks[i].Ins)
		for j := range ins {
			ins[j].Args = slices.Clone(ins[j].Args)
		}
		g.Blocks[i].Ins = ins
	}
	return g
}

func copiedAll(p []api.Graph) []api.Graph {
	p = slices.Clone(p)
	for i := range p {
		p[i] = copied(p[i])
	}
	return p
}

func countIns(g api.Graph, kind api.InsKind) int {
	n := 0
	for _, b := range g.Blocks {
		for _, x := range b.Ins {
			if x.Kind == kind {
				n++
			}
		}
	}
	return n
}

// What is wanted.

// wantClean asks for what is said here, and that the words say so.
func wantClean(t *testing.T, what string, want bool, g api.Graph) {
	t.Helper()
	if isClean(g) != want {
		t.Fatalf("%s: the words say otherwise of %v", what, g)
	}
	wantIs(t, what, want, g)
}

func wantIs(t *testing.T, what string, want bool, g api.Graph) {
	t.Helper()
	if is := tidy.Clean(g); is != want {
		t.Fatalf("%s: Clean tells %v of %v", what, is, g)
	}
}

// wantRefused asks for an error alone.
func wantRefused(t *testing.T, what string, want api.Errno, p []api.Graph, f int) {
	t.Helper()
	if g, e := tidy.Apply(p, f); e != want || !reflect.DeepEqual(g, api.Graph{}) {
		t.Errorf("%s: Apply of %d graphs, %d tells %v, %d; want %d alone", what, len(p), f, g, e, want)
	}
}

// wantApplied asks for all that is promised of a graph that is told, but for what runs of it show.
func wantApplied(t *testing.T, what string, p []api.Graph, f int) api.Graph {
	t.Helper()
	g, e := tidy.Apply(p, f)
	if e != api.OK {
		t.Fatalf("%s: Apply of %v, %d is refused with %d", what, p, f, e)
	}
	if !sameFace(p[f], g) {
		t.Fatalf("%s: %v becomes %v, which has another face", what, p[f], g)
	}
	if !isClean(g) || !tidy.Clean(g) {
		t.Fatalf("%s: %v becomes %v, which is not clean; Clean tells %v", what, p[f], g, tidy.Clean(g))
	}
	if !ssa.Is(g) {
		t.Fatalf("%s: %v becomes %v, which is not set once", what, p[f], g)
	}
	if e, at := graph.Check(with(p, f, g)); e != api.OK {
		t.Fatalf("%s: %v becomes %v: Check tells %d, %d", what, p[f], g, e, at)
	}
	if len(g.Blocks) > len(p[f].Blocks) {
		t.Fatalf("%s: %v becomes %v, which has more blocks", what, p[f], g)
	}
	return g
}

func sameFace(a, b api.Graph) bool {
	if len(a.Params) != len(b.Params) {
		return false
	}
	for i := range a.Params {
		if a.Vars[a.Params[i]] != b.Vars[b.Params[i]] {
			return false
		}
	}
	return a.Name == b.Name && a.Result == b.Result && slices.Equal(a.Arrays, b.Arrays)
}

// wantKept asks for all that is promised of a graph that is told: its runs, too, for some words, steps and depths.
func wantKept(t *testing.T, what string, p []api.Graph, f int) api.Graph {
	t.Helper()
	g := wantApplied(t, what, p, f)
	q := with(p, f, g)
	for from := range p {
		for _, seed := range []uint64{0, 1, 0x923456789abcdef3} {
			for _, limit := range [][2]int{{60, 4}, {7, 2}, {3, 1}, {1, 3}} {
				wantNoMore(t, what, p, q, from, wordsFor(p[from], seed), limit[0], limit[1])
			}
		}
	}
	return g
}

// wantBecome asks for just these blocks of a graph alone, however they are numbered; all else is as it was.
func wantBecome(t *testing.T, what string, g api.Graph, blocks ...api.Block) {
	t.Helper()
	h, want := wantKept(t, what, alone(g), 0), withBlocks(g, blocks...)
	if !sameGraph(graph.Trim(h), graph.Trim(want)) {
		t.Errorf("%s: %v becomes %v; want %v", what, g, h, want)
	}
}

// wantStay asks that a graph is clean, and stays as it is.
func wantStay(t *testing.T, what string, g api.Graph) {
	t.Helper()
	wantClean(t, what, true, g)
	if h := wantKept(t, what, alone(g), 0); !sameGraph(h, g) {
		t.Errorf("%s: %v becomes %v", what, g, h)
	}
}

// wantNoMore asks that a run of a graph of two programs shows what it must, in no more steps; it tells what it showed first and what it shows.
func wantNoMore(t *testing.T, what string, p, q []api.Graph, f int, args []uint64, steps, depth int) (api.Trace, api.Trace) {
	t.Helper()
	a, e := run.Run(p, f, args, steps, depth)
	b, d := run.Run(q, f, args, steps, depth)
	if e != api.OK || d != api.OK || !isKept(a, b) {
		t.Fatalf("%s: %v has become %v: the graph %d of %v with %d steps, depth %d shows %v, %d; it showed %v, %d", what, p, q, f, args, steps, depth, b, d, a, e)
	}
	return a, b
}

// wordsFor is words for a graph's parameters.
func wordsFor(g api.Graph, seed uint64) []uint64 {
	var args []uint64
	for i, v := range g.Params {
		args = append(args, scalar.Cut(g.Vars[v], seed*uint64(i+1)>>(i%3)))
	}
	return args
}
