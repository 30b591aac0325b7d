package ssa_test

import (
	"math"
	"slices"
	"testing"

	"smithy/api"
	"smithy/graph"
	"smithy/run"
	"smithy/scalar"
	"smithy/ssa"
)

var types = []api.Type{api.Bool, api.U8, api.I32, api.I64, api.F64}

// strays are numbers that are no place in a list of that length: below 0, one too many, far too great.
func strays(length int) []int {
	return []int{-1, length, length + 1, 1 << 32, math.MaxInt, math.MinInt, -1 << 32, -2}
}

// Instructions and ends.

func phi(dst int, args ...int) api.Ins { return api.Ins{Kind: api.InsPhi, Dst: dst, Args: args} }

func constant(dst int) api.Ins { return api.Ins{Kind: api.InsConst, Dst: dst} }

func number(dst int, word uint64) api.Ins {
	return api.Ins{Kind: api.InsConst, Dst: dst, Bits: word}
}

func copyOf(dst, arg int) api.Ins { return api.Ins{Kind: api.InsCopy, Dst: dst, Args: row(arg)} }

func op(o api.Op, dst int, args ...int) api.Ins {
	return api.Ins{Kind: api.InsOp, Op: o, Dst: dst, Args: args}
}

func not(dst, arg int) api.Ins { return op(api.OpNot, dst, arg) }

func cast(dst, arg int) api.Ins { return api.Ins{Kind: api.InsCast, Dst: dst, Args: row(arg)} }

func load(dst, array, index int) api.Ins {
	return api.Ins{Kind: api.InsLoad, Dst: dst, Ref: array, Args: row(index)}
}

func store(array, index, arg int) api.Ins {
	return api.Ins{Kind: api.InsStore, Ref: array, Args: row(index, arg)}
}

func wipe(array int) api.Ins { return api.Ins{Kind: api.InsClear, Ref: array} }

func call(ref, dst int, args ...int) api.Ins {
	return api.Ins{Kind: api.InsCall, Ref: ref, Dst: dst, Args: args}
}

func show(arg int) api.Ins { return api.Ins{Kind: api.InsPrint, Args: row(arg)} }

func jump(to int) api.Term { return api.Term{Kind: api.TermJump, To: [2]int{to, 0}} }

func branch(arg, to, other int) api.Term {
	return api.Term{Kind: api.TermBranch, Arg: arg, To: [2]int{to, other}}
}

func back(arg int) api.Term { return api.Term{Kind: api.TermReturn, Arg: arg} }

func trap(n api.Trap) api.Term { return api.Term{Kind: api.TermTrap, Trap: n} }

func block(end api.Term, ins ...api.Ins) api.Block { return api.Block{Ins: ins, Term: end} }

func row(vars ...int) []int { return vars }

// truths is a graph whose variables are of the type Bool, and which tells one of them: so that each may stand wherever a variable is asked or set. Its parameters are the first ones.
func truths(params, vars int, blocks ...api.Block) api.Graph {
	return api.Graph{Name: "g", Params: counted(0, params), Result: api.Bool, Vars: slices.Repeat([]api.Type{api.Bool}, vars), Blocks: blocks}
}

// Programs.

func with(p []api.Graph, f int, g api.Graph) []api.Graph {
	q := slices.Clone(p)
	q[f] = g
	return q
}

func phisOf(b api.Block) int {
	n := 0
	for n < len(b.Ins) && b.Ins[n].Kind == api.InsPhi {
		n++
	}
	return n
}

func countPhis(g api.Graph) int {
	n := 0
	for _, b := range g.Blocks {
		n += phisOf(b)
	}
	return n
}

// isNothing tells whether a graph is zero.
func isNothing(g api.Graph) bool {
	return g.Name == "" && g.Result == api.NoType && len(g.Params)+len(g.Vars)+len(g.Arrays)+len(g.Blocks) == 0
}

func wantIs(t *testing.T, what string, want bool, g api.Graph) {
	t.Helper()
	if got := ssa.Is(g); got != want {
		t.Errorf("%s: Is(%v) tells %v", what, g, got)
	}
}

func wantRefused(t *testing.T, what string, want api.Errno, p []api.Graph, f int) {
	t.Helper()
	if g, e := ssa.Build(p, f); e != want || !isNothing(g) {
		t.Errorf("%s: Build of %d graphs, %d tells %v, %d; want %d alone", what, len(p), f, g, e, want)
	}
}

// wantBuilt asks for all that is promised of a graph that is built, but for what runs of it show.
func wantBuilt(t *testing.T, what string, p []api.Graph, f int) api.Graph {
	t.Helper()
	g, e := ssa.Build(p, f)
	if e != api.OK {
		t.Fatalf("%s: Build of %v, %d is refused with %d", what, p, f, e)
	}
	if !ssa.Is(g) || !isOnce(g) {
		t.Fatalf("%s: %v becomes %v, which is not set once", what, p[f], g)
	}
	if e, at := graph.Check(with(p, f, g)); e != api.OK {
		t.Fatalf("%s: %v becomes %v: Check tells %d, %d", what, p[f], g, e, at)
	}
	if !sameFace(p[f], g) {
		t.Fatalf("%s: %v becomes %v, which has another face", what, p[f], g)
	}
	if l := unneeded(g); len(l) > 0 {
		t.Fatalf("%s: %v becomes %v, whose phis of %v are not needed", what, p[f], g, l)
	}
	return g
}

func sameFace(a, b api.Graph) bool {
	if len(a.Params) != len(b.Params) {
		return false
	}
	for i := range a.Params {
		if a.Vars[a.Params[i]] != b.Vars[b.Params[i]] {
			return false
		}
	}
	return a.Name == b.Name && a.Result == b.Result && slices.Equal(a.Arrays, b.Arrays)
}

// wantKept asks for all that is promised of a graph that is built: its runs, too, for some words, steps and depths.
func wantKept(t *testing.T, what string, p []api.Graph, f int) api.Graph {
	t.Helper()
	g := wantBuilt(t, what, p, f)
	q := with(p, f, g)
	for from := range p {
		for _, seed := range []uint64{0, 1, 0x923456789abcdef3} {
			for _, limit := range [][2]int{{40, 4}, {7, 2}, {3, 1}, {1, 3}} {
				wantSameRun(t, what, p, q, from, wordsFor(p[from], seed), limit[0], limit[1])
			}
		}
	}
	return g
}

// wordsFor is words for a graph's parameters.
func wordsFor(g api.Graph, seed uint64) []uint64 {
	var args []uint64
	for i, v := range g.Params {
		args = append(args, scalar.Cut(g.Vars[v], seed*uint64(i+1)>>(i%3)))
	}
	return args
}

// wantSameRun asks that a graph of two programs shows just the same, step by step.
func wantSameRun(t *testing.T, what string, p, q []api.Graph, f int, args []uint64, steps, depth int) api.Trace {
	t.Helper()
	a, e := run.Run(p, f, args, steps, depth)
	b, d := run.Run(q, f, args, steps, depth)
	if e != api.OK || d != api.OK || !sameTrace(a, b) {
		t.Fatalf("%s: %v is built as %v: the graph %d of %v with %d steps, depth %d shows %v, %d; it showed %v, %d", what, p, q, f, args, steps, depth, b, d, a, e)
	}
	return a
}

func sameTrace(a, b api.Trace) bool {
	return slices.Equal(a.Shows, b.Shows) && a.End == b.End && a.Value == b.Value && a.Trap == b.Trap && a.Steps == b.Steps && a.Depth == b.Depth
}

// copied is a graph of its own.
func copied(g api.Graph) api.Graph {
	g.Params, g.Vars, g.Arrays, g.Blocks = slices.Clone(g.Params), slices.Clone(g.Vars), slices.Clone(g.Arrays), slices.Clone(g.Blocks)
	for i := range g.Blocks {
		ins := slices.Clone(g.Blocks[i].Ins)
		for j := range ins {
			ins[j].Args = slices.Clone(ins[j].Args)
		}
		g.Blocks[i].Ins = ins
	}
	return g
}

func copiedAll(p []api.Graph) []api.Graph {
	p = slices.Clone(p)
	for i := range p {
		p[i] = copied(p[i])
	}
	return p
}

// counted is the numbers from one on, ahead of another.
func counted(from, end int) []int {
	l := make([]int, 0, max(end-from, 0))
	for i := from; i < end; i++ {
		l = append(l, i)
	}
	return l
}

// odds are numbers without a pattern, the same ones each time.
type odds uint64

const firstOdd odds = 0x9e3779b97f4a7c15

func (o *odds) number() uint64 {
	w := uint64(*o)
	w ^= w << 13
	w ^= w >> 7
	w ^= w << 17
	*o = odds(w)
	return w * 0x2545f4914f6cdd1d
}

func (o *odds) below(n int) int { return int(o.number() >> 33 % uint64(n)) }

// often tells true about so many times in a hundred.
func (o *odds) often(percent int) bool { return o.below(100) < percent }

func pick[T any](o *odds, l ...T) T { return l[o.below(len(l))] }

func (o *odds) shuffled(n int) []int {
	l := make([]int, n)
	for i := range l {
		j := o.below(i + 1)
		l[i], l[j] = l[j], i
	}
	return l
}
