package live_test

import (
	"math"
	"slices"
	"testing"

	"smithy/api"
	"smithy/live"
)

var types = []api.Type{api.Bool, api.U8, api.I32, api.I64, api.F64}

// strays are numbers that are no place in a list of that length: below 0, one too many, far too great.
func strays(length int) []int {
	return []int{-1, length, length + 1, 1 << 32, math.MaxInt, math.MinInt, -1 << 32, -2}
}

// Instructions and ends.

func phi(dst int, args ...int) api.Ins { return api.Ins{Kind: api.InsPhi, Dst: dst, Args: args} }

func constant(dst int) api.Ins { return api.Ins{Kind: api.InsConst, Dst: dst} }

func copyOf(dst, arg int) api.Ins { return api.Ins{Kind: api.InsCopy, Dst: dst, Args: row(arg)} }

func op(o api.Op, dst int, args ...int) api.Ins {
	return api.Ins{Kind: api.InsOp, Op: o, Dst: dst, Args: args}
}

func cast(dst, arg int) api.Ins { return api.Ins{Kind: api.InsCast, Dst: dst, Args: row(arg)} }

func load(dst, array, index int) api.Ins {
	return api.Ins{Kind: api.InsLoad, Dst: dst, Ref: array, Args: row(index)}
}

func store(array, index, arg int) api.Ins {
	return api.Ins{Kind: api.InsStore, Ref: array, Args: row(index, arg)}
}

func wipe(array int) api.Ins { return api.Ins{Kind: api.InsClear, Ref: array} }

func call(ref, dst int, args ...int) api.Ins {
	return api.Ins{Kind: api.InsCall, Ref: ref, Dst: dst, Args: args}
}

func show(arg int) api.Ins { return api.Ins{Kind: api.InsPrint, Args: row(arg)} }

func jump(to int) api.Term { return api.Term{Kind: api.TermJump, To: [2]int{to, 0}} }

func branch(arg, to, other int) api.Term {
	return api.Term{Kind: api.TermBranch, Arg: arg, To: [2]int{to, other}}
}

func back(arg int) api.Term { return api.Term{Kind: api.TermReturn, Arg: arg} }

func trap(n api.Trap) api.Term { return api.Term{Kind: api.TermTrap, Trap: n} }

func block(end api.Term, ins ...api.Ins) api.Block { return api.Block{Ins: ins, Term: end} }

// truths is a graph whose variables are of the type Bool, and which tells one of them: so that each may stand wherever a variable is asked or set.
func truths(vars int, blocks ...api.Block) api.Graph {
	return api.Graph{Name: "g", Result: api.Bool, Vars: slices.Repeat([]api.Type{api.Bool}, vars), Blocks: blocks}
}

// example is the graph of chapter 7, its phi with these arguments.
func example(args ...int) api.Graph {
	return api.Graph{Name: "g", Params: row(0), Result: api.I64, Vars: []api.Type{api.I64, api.Bool, api.I64}, Blocks: []api.Block{
		block(branch(1, 2, 1), api.Ins{Kind: api.InsConst, Dst: 2, Bits: 5}, op(api.OpLt, 1, 0, 2)),
		block(jump(3), show(0)),
		block(jump(3)),
		block(back(2), phi(2, args...)),
		block(jump(3)),
	}}
}

func row(vars ...int) []int { return vars }

func rows(l ...[]int) [][]int { return l }

func wantLive(t *testing.T, what string, g api.Graph, into, out [][]int) {
	t.Helper()
	a, b, e := live.Live(g)
	if e != api.OK || !sameLists(a, into) || !sameLists(b, out) {
		t.Errorf("%s: Live(%v) tells %v, %v, %d; want %v, %v", what, g.Blocks, a, b, e, into, out)
	}
}

// wantWords asks for what the words say.
func wantWords(t *testing.T, what string, g api.Graph) {
	t.Helper()
	into, out := leastSets(g)
	wantLive(t, what, g, into, out)
}

func wantRefused(t *testing.T, what string, g api.Graph) {
	t.Helper()
	if a, b, e := live.Live(g); e != api.ErrShape || len(a) != 0 || len(b) != 0 {
		t.Errorf("%s: Live(%v) tells %v, %v, %d; want ErrShape alone", what, g, a, b, e)
	}
}

func sameLists(a, b [][]int) bool {
	return slices.EqualFunc(a, b, slices.Equal[[]int])
}

// copied is a graph of its own.
func copied(g api.Graph) api.Graph {
	g.Params, g.Vars, g.Arrays, g.Blocks = slices.Clone(g.Params), slices.Clone(g.Vars), slices.Clone(g.Arrays), slices.Clone(g.Blocks)
	for i := range g.Blocks {
		ins := slices.Clone(g.Blocks[i].Ins)
		for j := range ins {
			ins[j].Args = slices.Clone(ins[j].Args)
		}
		g.Blocks[i].Ins = ins
	}
	return g
}

// counted is the numbers from one on, ahead of another.
func counted(from, end int) []int {
	l := make([]int, 0, max(end-from, 0))
	for i := from; i < end; i++ {
		l = append(l, i)
	}
	return l
}

// odds are numbers without a pattern, the same ones each time.
type odds uint64

const firstOdd odds = 0x9e3779b97f4a7c15

func (o *odds) number() uint64 {
	w := uint64(*o)
	w ^= w << 13
	w ^= w >> 7
	w ^= w << 17
	*o = odds(w)
	return w * 0x2545f4914f6cdd1d
}

func (o *odds) below(n int) int { return int(o.number() >> 33 % uint64(n)) }

// often tells true about so many times in a hundred.
func (o *odds) often(percent int) bool { return o.below(100) < percent }

func pick[T any](o *odds, l ...T) T { return l[o.below(len(l))] }

func (o *odds) shuffled(n int) []int {
	l := make([]int, n)
	for i := range l {
		j := o.below(i + 1)
		l[i], l[j] = l[j], i
	}
	return l
}
