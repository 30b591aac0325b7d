package run_test

import (
	"math"
	"slices"
	"testing"

	"smithy/api"
	"smithy/run"
)

// many is more steps, and a greater depth, than any run needs that asks for neither.
const many = 1 << 20

func bits(x float64) uint64 { return math.Float64bits(x) }

func minus(n int) uint64 { return uint64(-n) }

var types = []api.Type{api.Bool, api.U8, api.I32, api.I64, api.F64}

// wordsOf are words of a type: its ends, and some in between.
func wordsOf(t api.Type) []uint64 {
	switch t {
	case api.Bool:
		return []uint64{0, 1}
	case api.U8:
		return []uint64{0, 1, 2, 7, 8, 100, 127, 128, 200, 255}
	case api.I32:
		return []uint64{0, 1, minus(1), 2, minus(7), 31, 33, 1000, 65536, math.MaxInt32, 1<<64 - 1<<31}
	case api.I64:
		return []uint64{0, 1, minus(1), 3, minus(7), 64, 255, 1 << 31, 1<<53 + 1, math.MaxInt64, 1 << 63}
	}
	return []uint64{0, 1 << 63, bits(1), bits(-1.5), bits(0.1), bits(255.9), bits(256), bits(-0.9), bits(2147483648), bits(1 << 63), bits(-1 << 63), bits(math.Inf(1)), bits(math.Inf(-1)), 0x7ff8000000000000, 1, bits(math.MaxFloat64)}
}

// strays are numbers that are no place in a list of that length: below 0, one too many, far too great.
func strays(length int) []int {
	return []int{-1, length, length + 1, 1 << 32, math.MaxInt, math.MinInt, -1 << 32}
}

// Instructions and ends.

func phi(dst int, args ...int) api.Ins { return api.Ins{Kind: api.InsPhi, Dst: dst, Args: args} }

func constant(dst int, word uint64) api.Ins {
	return api.Ins{Kind: api.InsConst, Dst: dst, Bits: word}
}

func copyOf(dst, arg int) api.Ins { return api.Ins{Kind: api.InsCopy, Dst: dst, Args: []int{arg}} }

func op(o api.Op, dst int, args ...int) api.Ins {
	return api.Ins{Kind: api.InsOp, Op: o, Dst: dst, Args: args}
}

func cast(dst, arg int) api.Ins { return api.Ins{Kind: api.InsCast, Dst: dst, Args: []int{arg}} }

func load(dst, array, index int) api.Ins {
	return api.Ins{Kind: api.InsLoad, Dst: dst, Ref: array, Args: []int{index}}
}

func store(array, index, arg int) api.Ins {
	return api.Ins{Kind: api.InsStore, Ref: array, Args: []int{index, arg}}
}

func wipe(array int) api.Ins { return api.Ins{Kind: api.InsClear, Ref: array} }

func call(ref, dst int, args ...int) api.Ins {
	return api.Ins{Kind: api.InsCall, Ref: ref, Dst: dst, Args: args}
}

func show(arg int) api.Ins { return api.Ins{Kind: api.InsPrint, Args: []int{arg}} }

func jump(to int) api.Term { return api.Term{Kind: api.TermJump, To: [2]int{to, 0}} }

func branch(arg, to, other int) api.Term {
	return api.Term{Kind: api.TermBranch, Arg: arg, To: [2]int{to, other}}
}

func back(arg int) api.Term { return api.Term{Kind: api.TermReturn, Arg: arg} }

func trap(n api.Trap) api.Term { return api.Term{Kind: api.TermTrap, Trap: n} }

func block(end api.Term, ins ...api.Ins) api.Block { return api.Block{Ins: ins, Term: end} }

// truth is the one variable of the type Bool of the tests' graphs; all others are of the type I64.
const truth = 9

// numbers is a graph of I64 variables 0 to 8 and a truth, with an array of 3 and one of 256 elements, which has so many parameters, 0 and on, and tells an I64.
func numbers(params int, blocks ...api.Block) api.Graph {
	g := api.Graph{Name: "f", Result: api.I64, Vars: slices.Repeat([]api.Type{api.I64}, truth), Arrays: []api.Array{{Type: api.I64, Size: 3}, {Type: api.I64, Size: 256}}, Blocks: blocks}
	g.Vars = append(g.Vars, api.Bool)
	for i := range params {
		g.Params = append(g.Params, i)
	}
	return g
}

// Traces.

func same(a, b api.Trace) bool {
	return slices.Equal(a.Shows, b.Shows) && a.End == b.End && a.Value == b.Value && a.Trap == b.Trap && a.Steps == b.Steps && a.Depth == b.Depth
}

func told(value uint64, steps, depth int, shows ...api.Show) api.Trace {
	return api.Trace{Shows: shows, End: api.Told, Value: value, Steps: steps, Depth: depth}
}

func trapped(trap api.Trap, steps, depth int, shows ...api.Show) api.Trace {
	return api.Trace{Shows: shows, End: api.Trapped, Trap: trap, Steps: steps, Depth: depth}
}

func outOfSteps(steps, depth int, shows ...api.Show) api.Trace {
	return api.Trace{Shows: shows, End: api.Steps, Steps: steps, Depth: depth}
}

func tooDeep(steps, depth int, shows ...api.Show) api.Trace {
	return api.Trace{Shows: shows, End: api.Deep, Steps: steps, Depth: depth}
}

// whole is some numbers as they are shown.
func whole(l ...int) []api.Show {
	var shows []api.Show
	for _, n := range l {
		shows = append(shows, api.Show{Type: api.I64, Bits: uint64(n)})
	}
	return shows
}

// words is some numbers as they are handed in.
func words(l ...int) []uint64 {
	var w []uint64
	for _, n := range l {
		w = append(w, uint64(n))
	}
	return w
}

// ran is the trace of a run that must not be refused.
func ran(t *testing.T, p []api.Graph, f int, args []uint64, steps, depth int) api.Trace {
	t.Helper()
	trace, err := run.Run(p, f, args, steps, depth)
	if err != api.OK {
		t.Fatalf("Run of %d of %d with %d steps, depth %d is refused with %d", f, args, steps, depth, err)
	}
	return trace
}

// wantRun asks for just this trace of the first graph of a program.
func wantRun(t *testing.T, what string, p []api.Graph, args []uint64, steps, depth int, want api.Trace) {
	t.Helper()
	if trace := ran(t, p, 0, args, steps, depth); !same(trace, want) {
		t.Errorf("%s: of %d with %d steps, depth %d: %v; want %v", what, args, steps, depth, trace, want)
	}
}

// wantShows asks that instructions, in a graph whose parameters, 0 and on, are these words, show just these numbers.
func wantShows(t *testing.T, what string, args []uint64, ins []api.Ins, l ...int) {
	t.Helper()
	wantRun(t, what, []api.Graph{numbers(len(args), block(back(0), append(ins, constant(0, 0))...))}, args, 1, 1, told(0, 1, 1, whole(l...)...))
}

// copied is a graph of its own.
func copied(g api.Graph) api.Graph {
	g.Params, g.Vars, g.Arrays, g.Blocks = slices.Clone(g.Params), slices.Clone(g.Vars), slices.Clone(g.Arrays), slices.Clone(g.Blocks)
	for i := range g.Blocks {
		ins := slices.Clone(g.Blocks[i].Ins)
		for j := range ins {
			ins[j].Args = slices.Clone(ins[j].Args)
		}
		g.Blocks[i].Ins = ins
	}
	return g
}

func copiedAll(p []api.Graph) []api.Graph {
	p = slices.Clone(p)
	for i := range p {
		p[i] = copied(p[i])
	}
	return p
}

// odds are numbers without a pattern, the same ones each time.
type odds uint64

const firstOdd odds = 0x9e3779b97f4a7c15

func (o *odds) number() uint64 {
	w := uint64(*o)
	w ^= w << 13
	w ^= w >> 7
	w ^= w << 17
	*o = odds(w)
	return w * 0x2545f4914f6cdd1d
}

func (o *odds) below(n int) int { return int(o.number() >> 33 % uint64(n)) }

// often tells true about so many times in a hundred.
func (o *odds) often(percent int) bool { return o.below(100) < percent }

func pick[T any](o *odds, l ...T) T { return l[o.below(len(l))] }
