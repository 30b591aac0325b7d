package shape_test

import (
	"math"
	"reflect"
	"slices"
	"testing"

	"smithy/api"
	"smithy/shape"
)

func call(ref, dst int, args ...int) api.Ins {
	return api.Ins{Kind: api.InsCall, Ref: ref, Dst: dst, Args: args}
}

// host is a graph of two blocks, the second one with a phi and with these instructions behind it.
func host(ins ...api.Ins) api.Graph {
	phi := api.Ins{Kind: api.InsPhi, Dst: 1, Args: []int{0}}
	return api.Graph{Result: api.I64, Vars: []api.Type{api.I64, api.I64, api.F64}, Blocks: []api.Block{
		{Term: api.Term{Kind: api.TermJump, To: [2]int{1, 0}}},
		{Ins: append([]api.Ins{phi}, ins...), Term: api.Term{Kind: api.TermReturn, Arg: 1}},
	}}
}

func wantAlone(t *testing.T, what string, want bool, g api.Graph) {
	t.Helper()
	if got := shape.Alone(g); got != want {
		t.Errorf("%s: Alone(%v) tells %v", what, g, got)
	}
}

func TestAlone(t *testing.T) {
	wantAlone(t, "no call", true, host())
	wantAlone(t, "no block", false, api.Graph{Result: api.I64})
	wantAlone(t, "nothing at all", false, api.Graph{})
	wantAlone(t, "a print of no variable", false, host(api.Ins{Kind: api.InsPrint, Args: []int{3}}))
	for _, ref := range []int{0, 1, 64, 1 << 40, math.MaxInt} {
		wantAlone(t, "calls", true, host(call(ref, 2, 0, 1, 2), call(ref, 0), call(ref, 1, slices.Repeat([]int{2}, 20)...)))
	}
}

func TestCallsThatMayNotStand(t *testing.T) {
	for _, stray := range []int{-1, math.MinInt} {
		wantAlone(t, "a call of what is below 0", false, host(call(0, 0), call(stray, 0)))
	}
	for _, stray := range []int{-1, 3, 4, math.MaxInt, math.MinInt} {
		wantAlone(t, "no variable is set", false, host(call(0, 0), call(0, stray, 1)))
		wantAlone(t, "no variable is asked", false, host(call(0, 0), call(0, 0, 1, stray, 1)))
	}
	x := call(0, 0, 1)
	x.Op = api.OpAdd
	wantAlone(t, "an operation", false, host(x))
	x = call(0, 0, 1)
	x.Bits = 1
	wantAlone(t, "bits", false, host(x))
	g := host(call(0, 0, 1))
	slices.Reverse(g.Blocks[1].Ins)
	wantAlone(t, "a phi behind a call", false, g)
}

func TestNothingHandedInIsChanged(t *testing.T) {
	g, was := host(call(5, 2, 0, 1), call(0, 0)), host(call(5, 2, 0, 1), call(0, 0))
	if !shape.Alone(g) || !reflect.DeepEqual(g, was) {
		t.Errorf("%v has become %v", was, g)
	}
}

func TestSets(t *testing.T) {
	for kind, want := range map[api.InsKind]bool{
		api.InsPhi: true, api.InsConst: true, api.InsCopy: true, api.InsOp: true, api.InsCast: true, api.InsLoad: true, api.InsCall: true,
		api.InsStore: false, api.InsClear: false, api.InsPrint: false,
	} {
		if got := shape.Sets(api.Ins{Kind: kind}); got != want {
			t.Errorf("Sets of the kind %d tells %v", kind, got)
		}
	}
}

func TestAsks(t *testing.T) {
	for kind, want := range map[api.TermKind]bool{api.TermJump: false, api.TermBranch: true, api.TermReturn: true, api.TermTrap: false, 0: false, 5: false} {
		if got := shape.Asks(api.Term{Kind: kind}); got != want {
			t.Errorf("Asks of the kind %d tells %v", kind, got)
		}
	}
}
