package live_test

import (
	"slices"
	"testing"

	"smithy/api"
)

// kinds is a graph with two variables of each type (v and v + 5) and an array of I64, in which instructions of all kinds may stand.
func kinds(blocks ...api.Block) api.Graph {
	return api.Graph{Result: api.I64, Vars: append(slices.Clone(types), types...), Arrays: []api.Array{{Type: api.I64, Size: 3}}, Blocks: blocks}
}

const none = -1

// doing is an instruction, what it asks, rising, and what it sets.
type doing struct {
	what string
	ins  api.Ins
	asks []int
	sets int
}

var doings = []doing{
	{"a constant", constant(3), nil, 3},
	{"a copy", copyOf(3, 8), row(8), 3},
	{"a copy of itself", copyOf(3, 3), row(3), 3},
	{"an operation of two", op(api.OpAdd, 4, 9, 4), row(4, 9), 4},
	{"an operation of one and the same", op(api.OpLt, 0, 3, 3), row(3), 0},
	{"an operation of one", op(api.OpNeg, 3, 8), row(8), 3},
	{"an operation of one, itself", op(api.OpNot, 5, 5), row(5), 5},
	{"a cast", cast(1, 2), row(2), 1},
	{"a cast of itself", cast(2, 2), row(2), 2},
	{"a load", load(3, 0, 8), row(8), 3},
	{"a load by itself", load(3, 0, 3), row(3), 3},
	{"a store", store(0, 3, 8), row(3, 8), none},
	{"a store of its index", store(0, 8, 8), row(8), none},
	{"a clear", wipe(0), nil, none},
	{"a call of none", call(5, 4), nil, 4},
	{"a call of several", call(5, 0, 9, 3, 5, 3), row(3, 5, 9), 0},
	{"a call of what it sets", call(0, 7, 7, 1), row(1, 7), 7},
	{"a print", show(2), row(2), none},
	{"a print of the first one", show(0), row(0), none},
}

// with is a row with one number more, rising.
func with(l []int, more ...int) []int {
	l = append(slices.Clone(l), more...)
	slices.Sort(l)
	return slices.Compact(l)
}

func without(l []int, v int) []int {
	return slices.DeleteFunc(slices.Clone(l), func(i int) bool { return i == v })
}

// allConstants sets all of the variables to 0.
func allConstants() []api.Ins {
	var l []api.Ins
	for v := range 10 {
		l = append(l, constant(v))
	}
	return l
}

func TestWhatInstructionsAsk(t *testing.T) {
	for _, d := range doings {
		wantLive(t, d.what+" alone", kinds(block(trap(1), d.ins)), rows(d.asks), rows(nil))
		wantLive(t, d.what+" twice", kinds(block(trap(1), d.ins, d.ins)), rows(d.asks), rows(nil))
		wantLive(t, d.what+" ahead of settings", kinds(block(trap(1), slices.Insert(allConstants(), 0, d.ins)...)), rows(d.asks), rows(nil))
		wantLive(t, d.what+" behind settings", kinds(block(trap(1), append(allConstants(), d.ins)...)), rows(nil), rows(nil))
		wantLive(t, d.what+" in the block behind", kinds(block(jump(1)), block(trap(1), d.ins)), rows(d.asks, d.asks), rows(d.asks, nil))
		wantLive(t, d.what+" behind a block of settings", kinds(block(jump(1), allConstants()...), block(trap(1), d.ins)), rows(nil, d.asks), rows(d.asks, nil))
	}
}

// Whatever is asked behind an instruction, by an instruction, by an end, by a block, is live ahead of it, but for what it sets; the more so what is 0 in an instruction that sets nothing: it is no setting of the variable 0.
func TestWhatInstructionsSet(t *testing.T) {
	for _, d := range doings {
		for v := range 10 {
			into := with(d.asks, v)
			if d.sets == v {
				into = d.asks
			}
			wantLive(t, d.what+", a print", kinds(block(trap(1), d.ins, show(v))), rows(into), rows(nil))
			wantLive(t, d.what+", a print in the block behind", kinds(block(jump(1), d.ins), block(trap(1), show(v))), rows(into, row(v)), rows(row(v), nil))
			wantLive(t, d.what+", a print two blocks behind", kinds(block(jump(1), d.ins), block(jump(2)), block(trap(1), show(v))), rows(into, row(v), row(v)), rows(row(v), row(v), nil))
			if v%5 == 3 {
				wantLive(t, d.what+", a return", kinds(block(back(v), d.ins)), rows(into), rows(nil))
			}
			if v%5 == 0 {
				wantLive(t, d.what+", a branch", kinds(block(branch(v, 1, 1), d.ins), block(trap(1))), rows(into, nil), rows(nil, nil))
			}
		}
	}
}

// Each two, one behind the other.
func TestPairsOfInstructions(t *testing.T) {
	for _, a := range doings {
		for _, b := range doings {
			into := with(a.asks, without(b.asks, a.sets)...)
			what := a.what + ", " + b.what
			wantLive(t, what, kinds(block(trap(2), a.ins, b.ins)), rows(into), rows(nil))
			wantLive(t, what+" in two blocks", kinds(block(jump(1), a.ins), block(trap(2), b.ins)), rows(into, b.asks), rows(b.asks, nil))
			g := kinds(block(jump(1)), block(branch(0, 1, 2), a.ins, b.ins), block(trap(2)))
			around := with(into, without(without(row(0), a.sets), b.sets)...)
			out := with(around)
			wantLive(t, what+" in a loop", g, rows(around, around, nil), rows(around, out, nil))
		}
	}
}

// A jump and a trap ask nothing, though their Arg is 0.
func TestEnds(t *testing.T) {
	wantLive(t, "a jump", truths(2, block(jump(1)), block(trap(1))), rows(nil, nil), rows(nil, nil))
	wantLive(t, "a trap", truths(2, block(trap(3))), rows(nil), rows(nil))
	for v := range 3 {
		wantLive(t, "a return", truths(3, block(back(v))), rows(row(v)), rows(nil))
		wantLive(t, "a branch", truths(3, block(branch(v, 1, 2)), block(trap(1)), block(trap(2))), rows(row(v), nil, nil), rows(nil, nil, nil))
		wantLive(t, "a branch with one block behind", truths(3, block(branch(v, 1, 1)), block(back(2))), rows(with(row(v), 2), row(2)), rows(row(2), nil))
		wantLive(t, "set, then asked at the end", truths(3, block(back(v), constant(v))), rows(nil), rows(nil))
		wantLive(t, "set two blocks ahead", truths(3, block(jump(1), constant(v)), block(jump(2)), block(back(v))), rows(nil, row(v), row(v)), rows(row(v), row(v), nil))
		wantLive(t, "asked at the end, and in one of the blocks behind", truths(3, block(branch(v, 1, 2)), block(back(v)), block(trap(1))), rows(row(v), row(v), nil), rows(row(v), nil, nil))
	}
	wantLive(t, "no variable", api.Graph{Result: api.U8, Blocks: []api.Block{block(jump(1)), block(trap(1))}}, rows(nil, nil), rows(nil, nil))
}

func TestParametersAndWhatIsNeverSet(t *testing.T) {
	for _, params := range [][]int{nil, row(0), row(1), row(2, 0)} {
		g := truths(4, block(branch(2, 1, 2), constant(3)), block(back(0)), block(back(3)))
		g.Params = params
		wantLive(t, "asked, parameters or not", g, rows(row(0, 2), row(0), row(3)), rows(row(0, 3), nil, nil))
	}
	g := truths(3, block(jump(1), constant(0), copyOf(1, 2)), block(trap(1), copyOf(2, 0)))
	g.Params = row(0, 1, 2)
	wantLive(t, "a parameter that is set ahead of being asked", g, rows(row(2), row(0)), rows(row(0), nil))
	g = truths(3, block(jump(1), constant(0)), block(trap(1), constant(2)))
	g.Params = row(0, 1)
	wantLive(t, "variables that nothing asks", g, rows(nil, nil), rows(nil, nil))
}
