package graph_test

import (
	"math"
	"slices"
	"testing"

	"smithy/api"
	"smithy/graph"
	"smithy/scalar"
)

func wantStands(t *testing.T, p []api.Graph, g api.Graph, want api.Type, x api.Ins) {
	t.Helper()
	if u, ok := graph.Type(p, g, x); u != want || !ok {
		t.Errorf("%v: Type tells %d, %v; want %d, true", x, u, ok, want)
	}
}

func wantNotStands(t *testing.T, p []api.Graph, g api.Graph, x api.Ins) {
	t.Helper()
	if u, ok := graph.Type(p, g, x); u != api.NoType || ok {
		t.Errorf("%v: Type tells %d, %v; want NoType, false", x, u, ok)
	}
}

// callees are graphs that hosts call, from the place 1 on: without parameters, with one of each type, with two of one type.
func callees() []api.Graph {
	none := host()
	none.Params, none.Result, none.Blocks[0].Term = nil, api.F64, back(one(api.F64))
	each := host()
	each.Params, each.Result, each.Blocks[0].Term = []int{one(api.F64), other(api.Bool), one(api.U8), one(api.I32), other(api.I64)}, api.Bool, back(one(api.Bool))
	two := host()
	two.Params = []int{one(api.I64), other(api.I64)}
	return []api.Graph{none, each, two}
}

// hosted is a program with an instruction in its first graph.
func hosted(x api.Ins) []api.Graph {
	return append([]api.Graph{host(x)}, callees()...)
}

// wantMay asks both ways: an instruction may stand in a host, and a program with it is right.
func wantMay(t *testing.T, want api.Type, x api.Ins) {
	t.Helper()
	p := hosted(x)
	wantStands(t, p, p[0], want, x)
	if e, at := graph.Check(p); x.Kind != api.InsPhi && (e != api.OK || at != 0) {
		t.Errorf("%v: Check tells %d, %d; want OK", x, e, at)
	}
}

func wantMayNot(t *testing.T, x api.Ins) {
	t.Helper()
	p := hosted(x)
	wantNotStands(t, p, p[0], x)
	if e, at := graph.Check(p); e != api.ErrShape || at != 0 {
		t.Errorf("%v: Check tells %d, %d; want ErrShape, 0", x, e, at)
	}
}

// sound is an instruction that may stand, what Type tells of it, and which fields its kind has.
type sound struct {
	ins           api.Ins
	tells         api.Type
	op, dst, bits bool
	refs          int // how many there are to choose from; 0: the kind has no Ref
	anyNumber     bool
}

func sounds() []sound {
	u8, i64 := one(api.U8), one(api.I64)
	return []sound{
		{ins: phi(u8, other(api.U8), u8), tells: api.U8, dst: true, anyNumber: true},
		{ins: api.Ins{Kind: api.InsConst, Dst: u8, Bits: 255}, tells: api.U8, dst: true, bits: true},
		{ins: api.Ins{Kind: api.InsCopy, Dst: u8, Args: []int{other(api.U8)}}, tells: api.U8, dst: true},
		{ins: op(api.OpAdd, u8, u8, other(api.U8)), tells: api.U8, op: true, dst: true},
		{ins: op(api.OpNeg, i64, other(api.I64)), tells: api.I64, op: true, dst: true},
		{ins: api.Ins{Kind: api.InsCast, Dst: u8, Args: []int{one(api.F64)}}, tells: api.U8, dst: true},
		{ins: api.Ins{Kind: api.InsLoad, Ref: array(api.U8), Dst: u8, Args: []int{i64}}, tells: api.U8, dst: true, refs: arrays},
		{ins: api.Ins{Kind: api.InsStore, Ref: array(api.U8), Args: []int{i64, u8}}, refs: arrays},
		{ins: api.Ins{Kind: api.InsClear, Ref: array(api.U8)}, refs: arrays},
		{ins: call(3, i64, i64, i64), tells: api.I64, dst: true, refs: 4},
		{ins: call(1, one(api.F64)), tells: api.F64, dst: true, refs: 4},
		{ins: show(u8)},
	}
}

// bent is an instruction of its own, with a change.
func bent(x api.Ins, change func(x *api.Ins)) api.Ins {
	x.Args = slices.Clone(x.Args)
	change(&x)
	return x
}

func TestSoundInstructionsStand(t *testing.T) {
	for _, s := range sounds() {
		wantMay(t, s.tells, s.ins)
		// An empty list and none are the same.
		if len(s.ins.Args) == 0 {
			wantMay(t, s.tells, bent(s.ins, func(x *api.Ins) { x.Args = []int{} }))
		}
	}
}

// Each field that a kind has not must be 0.
func TestFieldsThatAKindHasNot(t *testing.T) {
	for _, s := range sounds() {
		if !s.op {
			for _, o := range []api.Op{1, 13, 17, 255} {
				wantMayNot(t, bent(s.ins, func(x *api.Ins) { x.Op = o }))
			}
		}
		if !s.dst {
			for _, v := range append(strays(variables), 1, 3, variables-1) {
				wantMayNot(t, bent(s.ins, func(x *api.Ins) { x.Dst = v }))
			}
		}
		if !s.bits {
			for _, w := range []uint64{1, 5, 1 << 63, math.MaxUint64} {
				wantMayNot(t, bent(s.ins, func(x *api.Ins) { x.Bits = w }))
			}
		}
		if s.refs == 0 {
			for _, r := range append(strays(arrays), 1, 2) {
				wantMayNot(t, bent(s.ins, func(x *api.Ins) { x.Ref = r }))
			}
		}
	}
}

// Dst, each of Args and Ref must be places that there are.
func TestNumbersThatAreNoPlace(t *testing.T) {
	for _, s := range sounds() {
		for _, v := range strays(variables) {
			if s.dst {
				wantMayNot(t, bent(s.ins, func(x *api.Ins) { x.Dst = v }))
			}
			for i := range s.ins.Args {
				wantMayNot(t, bent(s.ins, func(x *api.Ins) { x.Args[i] = v }))
			}
		}
		if s.refs > 0 {
			for _, r := range strays(s.refs) {
				wantMayNot(t, bent(s.ins, func(x *api.Ins) { x.Ref = r }))
			}
		}
	}
}

// One argument too few, one too many, many too many.
func TestNumbersOfArguments(t *testing.T) {
	for _, s := range sounds() {
		if s.anyNumber {
			continue
		}
		n := len(s.ins.Args)
		if n > 0 {
			wantMayNot(t, bent(s.ins, func(x *api.Ins) { x.Args = x.Args[:n-1] }))
			wantMayNot(t, bent(s.ins, func(x *api.Ins) { x.Args = nil }))
		}
		for _, v := range []int{one(api.U8), one(api.I64), 0} {
			wantMayNot(t, bent(s.ins, func(x *api.Ins) { x.Args = append(x.Args, v) }))
			wantMayNot(t, bent(s.ins, func(x *api.Ins) { x.Args = append(x.Args, slices.Repeat([]int{v}, 300)...) }))
		}
	}
}

func TestKindsThatAreNone(t *testing.T) {
	for _, s := range sounds() {
		for _, k := range []api.InsKind{0, 11, 12, 100, 255} {
			wantMayNot(t, bent(s.ins, func(x *api.Ins) { x.Kind = k }))
		}
	}
	wantMayNot(t, api.Ins{})
	wantMayNot(t, api.Ins{Kind: 11})
}

// A kind with the fields of another one is none, unless it may have them.
func TestKindsWithFieldsOfOthers(t *testing.T) {
	for _, s := range sounds() {
		for k := api.InsPhi; k <= api.InsPrint; k++ {
			x := bent(s.ins, func(x *api.Ins) { x.Kind = k })
			p := hosted(x)
			if want, ok := slowType(p, p[0], x); ok {
				wantStands(t, p, p[0], want, x)
			} else {
				wantMayNot(t, x)
			}
		}
	}
}

// wantMayIf asks that an instruction may stand just if so.
func wantMayIf(t *testing.T, may bool, tells api.Type, x api.Ins) {
	t.Helper()
	if may {
		wantMay(t, tells, x)
	} else {
		wantMayNot(t, x)
	}
}

func TestTypesOfCopiesCastsAndPhis(t *testing.T) {
	for _, a := range types {
		for _, b := range types {
			wantMayIf(t, a == b, a, api.Ins{Kind: api.InsCopy, Dst: one(a), Args: []int{other(b)}})
			wantMayIf(t, a != api.Bool && b != api.Bool, a, api.Ins{Kind: api.InsCast, Dst: one(a), Args: []int{other(b)}})
			wantMayIf(t, a == b, a, phi(one(a), other(b)))
			wantMayIf(t, a == b, a, phi(one(a), other(a), one(a), other(b)))
			wantMayIf(t, a == b, a, phi(one(a), other(b), one(a), other(a)))
		}
		wantMay(t, a, phi(other(a)))
		wantMay(t, a, phi(other(a), slices.Repeat([]int{one(a)}, 1000)...))
		wantMay(t, a, api.Ins{Kind: api.InsCopy, Dst: one(a), Args: []int{one(a)}})
		wantMay(t, api.NoType, show(one(a)))
		wantMay(t, api.NoType, show(other(a)))
	}
}

func TestWordsOfConstants(t *testing.T) {
	const least32, least64 = 1<<64 - 1<<31, 1 << 63
	for _, c := range []struct {
		of           api.Type
		right, wrong []uint64
	}{
		{api.Bool, []uint64{0, 1}, []uint64{2, 255, least64, math.MaxUint64}},
		{api.U8, []uint64{0, 1, 255}, []uint64{256, 1 << 32, math.MaxUint64}},
		{api.I32, []uint64{0, math.MaxInt32, math.MaxUint64, least32}, []uint64{1 << 31, math.MaxUint32, least32 - 1, least64}},
		{api.I64, []uint64{0, math.MaxInt64, least64, math.MaxUint64}, nil},
		{api.F64, []uint64{0, 1, least64, 0x7ff0000000000000, 0x7ff8000000000000}, []uint64{0x7ff8000000000001, 0x7ff0000000000001, 0xfff8000000000000, math.MaxUint64}},
	} {
		for _, w := range c.right {
			wantMay(t, c.of, api.Ins{Kind: api.InsConst, Dst: one(c.of), Bits: w})
		}
		for _, w := range c.wrong {
			wantMayNot(t, api.Ins{Kind: api.InsConst, Dst: one(c.of), Bits: w})
		}
	}
}

// Each operation with operands and a Dst of each type, one operand, and two.
func TestTypesOfOperations(t *testing.T) {
	g := host()
	for o := api.NoOp; o <= api.OpNot+3; o++ {
		single := o == api.OpNeg || o == api.OpNot
		for _, a := range types {
			told, ok := scalar.Of(o, a)
			for _, d := range types {
				if x := op(o, one(d), one(a)); ok && single && told == d {
					wantStands(t, nil, g, d, x)
				} else {
					wantNotStands(t, nil, g, x)
				}
				for _, b := range types {
					if x := op(o, one(d), one(a), other(b)); ok && !single && a == b && told == d {
						wantStands(t, nil, g, d, x)
					} else {
						wantNotStands(t, nil, g, x)
					}
				}
			}
		}
	}
	for _, o := range []api.Op{100, 255} {
		wantMayNot(t, op(o, one(api.I64), one(api.I64), one(api.I64)))
		wantMayNot(t, op(o, one(api.I64), one(api.I64)))
	}
	// Some by their names.
	wantMay(t, api.Bool, op(api.OpGe, one(api.Bool), one(api.F64), other(api.F64)))
	wantMay(t, api.F64, op(api.OpDiv, one(api.F64), one(api.F64), other(api.F64)))
	wantMayNot(t, op(api.OpRem, one(api.F64), one(api.F64), other(api.F64)))
	wantMayNot(t, op(api.OpLt, one(api.Bool), one(api.Bool), other(api.Bool)))
	wantMay(t, api.Bool, op(api.OpEq, one(api.Bool), one(api.Bool), other(api.Bool)))
	wantMayNot(t, op(api.OpNot, one(api.F64), one(api.F64)))
	wantMay(t, api.Bool, op(api.OpNot, one(api.Bool), other(api.Bool)))
}

func TestTypesOfArrays(t *testing.T) {
	for _, a := range types {
		wantMay(t, api.NoType, api.Ins{Kind: api.InsClear, Ref: array(a)})
		for _, i := range types {
			for _, e := range types {
				wantMayIf(t, i == api.I64 && e == a, a, api.Ins{Kind: api.InsLoad, Ref: array(a), Dst: one(e), Args: []int{one(i)}})
				wantMayIf(t, i == api.I64 && e == a, api.NoType, api.Ins{Kind: api.InsStore, Ref: array(a), Args: []int{one(i), other(e)}})
			}
		}
	}
	// A graph without arrays has none at 0.
	g := host()
	g.Arrays = nil
	for _, s := range sounds() {
		if s.refs == arrays {
			wantNotStands(t, nil, g, bent(s.ins, func(x *api.Ins) { x.Ref = 0 }))
		}
	}
}

func TestTypesOfCalls(t *testing.T) {
	sorted := []api.Type{api.F64, api.Bool, api.U8, api.I32, api.I64}
	var args []int
	for _, a := range sorted {
		args = append(args, one(a))
	}
	wantMay(t, api.Bool, call(2, other(api.Bool), args...))
	for _, a := range types {
		wantMayIf(t, a == api.Bool, a, call(2, one(a), args...))
		wantMayIf(t, a == api.F64, a, call(1, one(a)))
		for i := range args {
			l := slices.Clone(args)
			l[i] = other(a)
			wantMayIf(t, sorted[i] == a, api.Bool, call(2, one(api.Bool), l...))
		}
		for _, b := range types {
			wantMayIf(t, a == api.I64 && b == api.I64, api.I64, call(3, one(api.I64), one(a), other(b)))
		}
	}
	slices.Reverse(args)
	wantMayNot(t, call(2, one(api.Bool), args...))
	// A graph may call itself.
	wantMay(t, api.I64, call(0, other(api.I64), one(api.I64)))
	wantMayNot(t, call(0, other(api.I64), one(api.I32)))
	// Without a program there is nothing to be called.
	wantNotStands(t, nil, host(), call(0, other(api.I64), one(api.I64)))
}

// A call looks at the called graph's Params, at their types, and at Result, whatever else that graph is.
func TestCallsOfGraphsThatAreNotRight(t *testing.T) {
	const i64 = 3
	bare := api.Graph{Params: []int{1, 0}, Result: api.U8, Vars: []api.Type{api.I64, api.F64, 99}}
	x := call(1, one(api.U8), one(api.F64), i64)
	p := []api.Graph{host(x), bare}
	wantStands(t, p, p[0], api.U8, x)
	wantCheck(t, "no blocks", api.ErrShape, 1, p...)
	for _, v := range strays(3) {
		p := copiedAll(p)
		p[1].Params[1] = v
		wantNotStands(t, p, p[0], x)
		wantCheck(t, "no variable of its own", api.ErrShape, 0, p...)
	}
	// A number that is a variable of the calling graph alone is none of the called one.
	bare.Params = []int{1, 5}
	wantNotStands(t, []api.Graph{host(), bare}, host(), x)
	// As many parameters as there are, twice the same one too.
	bare.Params = slices.Repeat([]int{0}, 9)
	x = call(1, one(api.U8), slices.Repeat([]int{i64}, 9)...)
	p = []api.Graph{host(x), bare}
	wantStands(t, p, p[0], api.U8, x)
	wantNotStands(t, p, p[0], call(1, one(api.U8), slices.Repeat([]int{i64}, 8)...))
	wantCheck(t, "nine parameters", api.ErrShape, 1, p...)
}

// A variable whose type is none has no type with others in common.
func TestVariablesOfNoType(t *testing.T) {
	for _, none := range noTypes {
		g := host()
		g.Vars[0], g.Vars[1], g.Arrays[0].Type = none, none, none
		called := api.Graph{Params: []int{0}, Result: none, Vars: []api.Type{none}}
		p := []api.Graph{g, called}
		for _, x := range []api.Ins{
			phi(0), phi(0, 1), phi(0, 0, 1), {Kind: api.InsConst, Dst: 0}, {Kind: api.InsCopy, Dst: 0, Args: []int{1}}, {Kind: api.InsCast, Dst: 0, Args: []int{1}},
			op(api.OpEq, other(api.Bool), 0, 1), op(api.OpAdd, 0, 0, 1), op(api.OpNeg, 0, 1), {Kind: api.InsCast, Dst: 3, Args: []int{1}}, {Kind: api.InsCast, Dst: 1, Args: []int{3}},
			{Kind: api.InsLoad, Dst: 0, Args: []int{3}}, {Kind: api.InsStore, Args: []int{3, 0}}, call(1, 0, 1), call(1, 3, 1), call(1, 0, 3),
		} {
			wantNotStands(t, p, g, x)
		}
		// A print and a clear ask for no type.
		wantStands(t, p, g, api.NoType, show(0))
		wantStands(t, p, g, api.NoType, api.Ins{Kind: api.InsClear})
		called.Params = nil
		wantNotStands(t, []api.Graph{g, called}, g, call(1, 0))
		called.Result = api.I64
		wantStands(t, []api.Graph{g, called}, g, api.I64, call(1, 3))
	}
}

// What is asked of an instruction hangs on no other part of the graph: neither on its blocks nor on other variables.
func TestTypeAsksOfTheInstructionAlone(t *testing.T) {
	for _, s := range sounds() {
		p := hosted(s.ins)
		g := p[0]
		g.Blocks, g.Params, g.Result = nil, []int{-1, 99, 99}, 77
		g.Vars = append(g.Vars, 77)
		wantStands(t, p, g, s.tells, s.ins)
	}
	empty := api.Graph{}
	for _, s := range sounds() {
		wantNotStands(t, hosted(s.ins), empty, s.ins)
	}
}
