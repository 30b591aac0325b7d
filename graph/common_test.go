package graph_test

import (
	"math"
	"slices"
	"testing"

	"smithy/api"
	"smithy/graph"
)

var types = []api.Type{api.Bool, api.U8, api.I32, api.I64, api.F64}

// noTypes are numbers that are no type.
var noTypes = []api.Type{api.NoType, 6, 9, 255}

// Each graph of the tests that are of instructions has two variables of each type, and an array of each.
func one(t api.Type) int { return int(t) - 1 }

func other(t api.Type) int { return int(t) - 1 + len(types) }

func array(t api.Type) int { return int(t) - 1 }

const variables, arrays = 10, 5

// strays are numbers that are no place in a list of that length: below 0, one too many, far too great.
func strays(length int) []int {
	return []int{-1, length, length + 1, 1 << 32, math.MaxInt, math.MinInt, -1 << 32}
}

// host is a graph with these instructions in its only block, which tells an I64.
func host(ins ...api.Ins) api.Graph {
	g := api.Graph{Name: "host", Params: []int{one(api.I64)}, Result: api.I64, Vars: append(slices.Clone(types), types...), Blocks: []api.Block{{Ins: ins, Term: back(one(api.I64))}}}
	for i, t := range types {
		g.Arrays = append(g.Arrays, api.Array{Type: t, Size: i + 1})
	}
	return g
}

// blocks is a graph without instructions, whose blocks have these ends; it has a variable of each type, and tells an I64.
func blocks(ends ...api.Term) api.Graph {
	g := api.Graph{Name: "g", Result: api.I64, Vars: slices.Clone(types)}
	for _, e := range ends {
		g.Blocks = append(g.Blocks, api.Block{Term: e})
	}
	return g
}

func jump(to int) api.Term { return api.Term{Kind: api.TermJump, To: [2]int{to, 0}} }

func branch(arg, to, other int) api.Term {
	return api.Term{Kind: api.TermBranch, Arg: arg, To: [2]int{to, other}}
}

// fork is a branch of the tests' variable of the type Bool.
func fork(to, other int) api.Term { return branch(one(api.Bool), to, other) }

func back(arg int) api.Term { return api.Term{Kind: api.TermReturn, Arg: arg} }

func trap(n api.Trap) api.Term { return api.Term{Kind: api.TermTrap, Trap: n} }

func phi(dst int, args ...int) api.Ins { return api.Ins{Kind: api.InsPhi, Dst: dst, Args: args} }

func show(arg int) api.Ins { return api.Ins{Kind: api.InsPrint, Args: []int{arg}} }

func call(ref, dst int, args ...int) api.Ins {
	return api.Ins{Kind: api.InsCall, Ref: ref, Dst: dst, Args: args}
}

func op(o api.Op, dst int, args ...int) api.Ins {
	return api.Ins{Kind: api.InsOp, Op: o, Dst: dst, Args: args}
}

// example is the chapter's graph, its phi with these arguments.
func example(args ...int) api.Graph {
	return api.Graph{Name: "g", Params: []int{0}, Result: api.I64, Vars: []api.Type{api.I64, api.Bool, api.I64}, Blocks: []api.Block{
		{Ins: []api.Ins{{Kind: api.InsConst, Dst: 2, Bits: 5}, op(api.OpLt, 1, 0, 2)}, Term: branch(1, 2, 1)},
		{Ins: []api.Ins{show(0)}, Term: jump(3)},
		{Term: jump(3)},
		{Ins: []api.Ins{phi(2, args...)}, Term: back(2)},
		{Term: jump(3)},
	}}
}

func wantCheck(t *testing.T, what string, want api.Errno, at int, p ...api.Graph) {
	t.Helper()
	if e, place := graph.Check(p); e != want || place != at {
		t.Errorf("%s: Check tells %d, %d; want %d, %d", what, e, place, want, at)
	}
}

func wantRight(t *testing.T, what string, p ...api.Graph) {
	t.Helper()
	wantCheck(t, what, api.OK, 0, p...)
}

// wantWrong asks that the last graph of a program is the first one that is not right.
func wantWrong(t *testing.T, what string, p ...api.Graph) {
	t.Helper()
	wantCheck(t, what, api.ErrShape, len(p)-1, p...)
}

func wantList(t *testing.T, what string, got []int, want ...int) {
	t.Helper()
	if !slices.Equal(got, want) {
		t.Errorf("%s: %v; want %v", what, got, want)
	}
}

func sameIns(a, b api.Ins) bool {
	return a.Kind == b.Kind && a.Op == b.Op && a.Dst == b.Dst && a.Bits == b.Bits && a.Ref == b.Ref && slices.Equal(a.Args, b.Args)
}

func sameBlock(a, b api.Block) bool {
	return a.Term == b.Term && slices.EqualFunc(a.Ins, b.Ins, sameIns)
}

func same(a, b api.Graph) bool {
	return a.Name == b.Name && a.Result == b.Result && slices.Equal(a.Params, b.Params) && slices.Equal(a.Vars, b.Vars) &&
		slices.Equal(a.Arrays, b.Arrays) && slices.EqualFunc(a.Blocks, b.Blocks, sameBlock)
}

func sameLists(a, b [][]int) bool {
	return slices.EqualFunc(a, b, slices.Equal[[]int])
}

// copied is a graph of its own.
func copied(g api.Graph) api.Graph {
	g.Params, g.Vars, g.Arrays, g.Blocks = slices.Clone(g.Params), slices.Clone(g.Vars), slices.Clone(g.Arrays), slices.Clone(g.Blocks)
	for i := range g.Blocks {
		ins := slices.Clone(g.Blocks[i].Ins)
		for j := range ins {
			ins[j].Args = slices.Clone(ins[j].Args)
		}
		g.Blocks[i].Ins = ins
	}
	return g
}

func copiedAll(p []api.Graph) []api.Graph {
	p = slices.Clone(p)
	for i := range p {
		p[i] = copied(p[i])
	}
	return p
}

// odds are numbers without a pattern, the same ones each time.
type odds uint64

const firstOdd odds = 0x9e3779b97f4a7c15

func (o *odds) number() uint64 {
	w := uint64(*o)
	w ^= w << 13
	w ^= w >> 7
	w ^= w << 17
	*o = odds(w)
	return w * 0x2545f4914f6cdd1d
}

func (o *odds) below(n int) int { return int(o.number() >> 33 % uint64(n)) }

// often tells true about so many times in a hundred.
func (o *odds) often(percent int) bool { return o.below(100) < percent }

func pick[T any](o *odds, l ...T) T { return l[o.below(len(l))] }
