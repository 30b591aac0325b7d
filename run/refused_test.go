package run_test

import (
	"math"
	"slices"
	"testing"

	"smithy/api"
	"smithy/graph"
	"smithy/run"
)

// wantRefused asks for an error, and nothing beside it.
func wantRefused(t *testing.T, what string, want api.Errno, p []api.Graph, f int, args []uint64, steps, depth int) {
	t.Helper()
	trace, err := run.Run(p, f, args, steps, depth)
	if err != want {
		t.Errorf("%s: Run tells %d; want %d", what, err, want)
	}
	if !same(trace, api.Trace{}) || trace.Shows != nil {
		t.Errorf("%s: beside an error Run tells %v", what, trace)
	}
}

func plain() api.Graph { return numbers(1, block(back(0), show(0))) }

func TestTooManyGraphs(t *testing.T) {
	p := slices.Repeat([]api.Graph{plain()}, api.MaxFuncs)
	for f := range p {
		if trace := ran(t, p, f, words(7), 1, 1); !same(trace, told(7, 1, 1, whole(7)...)) {
			t.Errorf("of the graph %d: %v", f, trace)
		}
	}
	p = append(p, plain())
	wantRefused(t, "65 graphs", api.ErrLong, p, 0, words(7), 1, 1)
	wantRefused(t, "1000 graphs", api.ErrLong, make([]api.Graph, 1000), 0, nil, 1, 1)
}

// wrongs are graphs that are not right, each for one reason.
func wrongs() map[string]api.Graph {
	l := map[string]api.Graph{
		"no blocks":               numbers(1),
		"a kind of no end":        numbers(1, block(api.Term{})),
		"a jump to the entry":     numbers(1, block(jump(0))),
		"a jump to no block":      numbers(1, block(jump(1))),
		"a branch to no block":    numbers(1, block(branch(truth, 1, 2)), block(back(0))),
		"a branch on a number":    numbers(1, block(branch(0, 1, 1)), block(back(0))),
		"a truth is told":         numbers(1, block(back(truth))),
		"no variable is told":     numbers(1, block(back(10))),
		"a trap that is none":     numbers(1, block(trap(4))),
		"a field of another end":  numbers(1, block(api.Term{Kind: api.TermReturn, Trap: 1})),
		"a kind of nothing":       numbers(1, block(back(0), api.Ins{Kind: 11})),
		"a field of another kind": numbers(1, block(back(0), api.Ins{Kind: api.InsPrint, Args: []int{0}, Ref: 1})),
		"a word of no truth":      numbers(1, block(back(0), constant(truth, 2))),
		"a copy of another type":  numbers(1, block(back(0), copyOf(truth, 0))),
		"a sum of truths":         numbers(1, block(back(0), op(api.OpAdd, truth, truth, truth))),
		"an operand too few":      numbers(1, block(back(0), op(api.OpAdd, 1, 0))),
		"a truth is turned":       numbers(1, block(back(0), cast(0, truth))),
		"a load of no array":      numbers(1, block(back(0), load(0, 2, 0))),
		"an index that is none":   numbers(1, block(back(0), store(0, truth, 0))),
		"a clear of no array":     numbers(1, block(back(0), wipe(-1))),
		"a call of no graph":      numbers(1, block(back(0), call(5, 0, 0))),
		"an argument too many":    numbers(1, block(back(0), call(0, 0, 0, 1))),
		"a phi in the entry":      numbers(1, block(back(0), phi(0))),
		"a phi behind another":    numbers(1, block(jump(1)), block(back(0), show(0), phi(0, 0))),
		"a phi of too few":        numbers(1, block(branch(truth, 1, 2)), block(jump(2)), block(back(0), phi(0, 0))),
		"two phis of one":         numbers(1, block(jump(1)), block(back(0), phi(0, 0), phi(0, 1))),
		"a parameter twice":       numbers(1, block(back(0))),
		"a variable of no type":   numbers(1, block(back(0))),
		"an array without size":   numbers(1, block(back(0))),
		"a block that none names": numbers(1, block(back(0)), block(jump(0))),
	}
	g := l["a parameter twice"]
	g.Params = []int{0, 0}
	l["a parameter twice"] = g
	l["a variable of no type"].Vars[5] = api.NoType
	l["an array without size"].Arrays[1].Size = 0
	return l
}

// A graph that is not right makes the program none, called or not.
func TestGraphsThatAreNotRight(t *testing.T) {
	for what, g := range wrongs() {
		for at := range 3 {
			p := []api.Graph{plain(), plain(), plain()}
			p[at] = g
			if err, _ := graph.Check(p); err != api.ErrShape {
				t.Fatalf("%s: Check tells %d", what, err)
			}
			for f := range p {
				wantRefused(t, what, api.ErrShape, p, f, words(7), 1, 1)
			}
		}
	}
	wantRefused(t, "a zero graph", api.ErrShape, []api.Graph{{}}, 0, nil, 1, 1)
}

func TestWrongArguments(t *testing.T) {
	p := []api.Graph{numbers(2, block(back(0), show(0))), numbers(0, block(back(0)))}
	right := words(5, 6)
	for _, f := range strays(len(p)) {
		wantRefused(t, "a graph's place", api.ErrArg, p, f, nil, 1, 1)
		wantRefused(t, "a graph's place", api.ErrArg, p, f, right, 1, 1)
	}
	for _, args := range [][]uint64{nil, {}, {5}, {5, 6, 7}, {5, 6, 7, 8, 9, 10, 11, 12, 13}} {
		wantRefused(t, "as many words", api.ErrArg, p, 0, args, 1, 1)
	}
	wantRefused(t, "a word of none", api.ErrArg, p, 1, words(0), 1, 1)
	for _, below := range []int{-1, -2, math.MinInt} {
		wantRefused(t, "steps", api.ErrArg, p, 0, right, below, 1)
		wantRefused(t, "depth", api.ErrArg, p, 0, right, 1, below)
		wantRefused(t, "steps and depth", api.ErrArg, p, 0, right, below, below)
		wantRefused(t, "steps beside no depth", api.ErrArg, p, 0, right, below, 0)
		wantRefused(t, "depth beside no steps", api.ErrArg, p, 0, right, 0, below)
	}
	wantRefused(t, "of no graphs the first one", api.ErrArg, nil, 0, nil, 1, 1)
	wantRefused(t, "of no graphs the first one", api.ErrArg, []api.Graph{}, 0, nil, 1, 1)
}

// Of each type words are taken that are right, and no others; a parameter's type is that of its variable, wherever that stands.
func TestWordsOfTypes(t *testing.T) {
	wrong := map[api.Type][]uint64{
		api.Bool: {2, 255, minus(1), 1 << 32},
		api.U8:   {256, 1 << 32, minus(1), 1 << 63},
		api.I32:  {1 << 31, 1 << 32, 1 << 63, 1<<64 - 1<<31 - 1, 1<<32 - 1},
		api.F64:  {0x7ff8000000000001, 0xfff8000000000000, 0x7ff0000000000001, minus(1)},
	}
	for _, u := range types {
		for at := range 2 {
			vars, params, args := []api.Type{api.I64, api.I64, u}, []int{1, 1}, words(5, 5)
			params[at] = 2
			p := []api.Graph{{Params: params, Result: u, Vars: vars, Blocks: []api.Block{block(back(2), show(2))}}}
			for _, w := range wordsOf(u) {
				args[at] = w
				wantRun(t, "a word", p, args, 1, 1, told(w, 1, 1, api.Show{Type: u, Bits: w}))
			}
			for _, w := range wrong[u] {
				args[at] = w
				wantRefused(t, "a word that is none", api.ErrArg, p, 0, args, 1, 1)
			}
		}
	}
}

// What is wrong with a program comes ahead of all that is wrong with arguments, and too many graphs ahead of that.
func TestOrderOfErrors(t *testing.T) {
	bad := numbers(1, block(jump(7)))
	for _, f := range []int{-1, 0, 1, 70} {
		for _, args := range [][]uint64{nil, {1}, {1, 2}} {
			for _, steps := range []int{-1, 1} {
				for _, depth := range []int{-1, 1} {
					wantRefused(t, "not right", api.ErrShape, []api.Graph{bad}, f, args, steps, depth)
					wantRefused(t, "not right, too many", api.ErrLong, slices.Repeat([]api.Graph{bad}, 65), f, args, steps, depth)
					wantRefused(t, "too many", api.ErrLong, slices.Repeat([]api.Graph{plain()}, 65), f, args, steps, depth)
				}
			}
		}
	}
}

// Eight parameters, each with its own word, in the order of Params.
func TestAllParameters(t *testing.T) {
	g := numbers(8, block(back(0), show(0), show(1), show(2), show(3), show(4), show(5), show(6), show(7), show(8)))
	wantRun(t, "rising", []api.Graph{g}, words(10, 11, 12, 13, 14, 15, 16, 17), 1, 1, told(10, 1, 1, whole(10, 11, 12, 13, 14, 15, 16, 17, 0)...))
	g.Params = []int{7, 1, 8, 2, 0, 4, 6, 5}
	wantRun(t, "in another order", []api.Graph{g}, words(10, 11, 12, 13, 14, 15, 16, 17), 1, 1, told(14, 1, 1, whole(14, 11, 13, 0, 15, 17, 16, 10, 12)...))
}
