package gvn_test

import (
	"slices"
	"testing"

	"smithy/api"
	"smithy/scalar"
)

// two is instructions of each kind that is reckoned: the first one sets 2, the second one, which is reckoned alike, 3. They ask the parameters 0 and 1.
var two = map[string]struct {
	vars          []api.Type
	first, second api.Ins
}{
	"a constant":         {[]api.Type{api.Bool, api.I64, api.U8, api.U8}, number(2, 5), number(3, 5)},
	"an operation of 1":  {[]api.Type{api.Bool, api.I64, api.I64, api.I64}, op(api.OpNeg, 2, 1), op(api.OpNeg, 3, 1)},
	"an operation of 2":  {[]api.Type{api.Bool, api.I64, api.Bool, api.Bool}, op(api.OpLt, 2, 1, 1), op(api.OpLt, 3, 1, 1)},
	"arguments turned":   {[]api.Type{api.Bool, api.Bool, api.Bool, api.Bool}, op(api.OpXor, 2, 0, 1), op(api.OpXor, 3, 1, 0)},
	"a cast":             {[]api.Type{api.Bool, api.F64, api.I32, api.I32}, cast(2, 1), cast(3, 1)},
	"a cast to its type": {[]api.Type{api.Bool, api.F64, api.F64, api.F64}, cast(2, 1), cast(3, 1)},
}

// eachTwo asks, for each two that are reckoned alike, of a graph with both (made by put, which is handed the first one, the second one, and what may stand between), and of the same with the other one first.
func eachTwo(t *testing.T, what string, want bool, put func(first, second, idle []api.Ins) []api.Block) {
	t.Helper()
	for name, x := range two {
		vars := append(slices.Clone(x.vars), api.Bool, api.Bool)
		idle := []api.Ins{show(0), op(api.OpOr, 4, 0, 0), show(4)}
		g := typed(2, vars, put([]api.Ins{x.first}, []api.Ins{x.second}, idle)...)
		wantClean(t, what+", "+name, want, g)
		wantKept(t, what+", "+name, alone(g), 0)
		g = typed(2, vars, put([]api.Ins{x.second}, []api.Ins{x.first}, idle)...)
		wantClean(t, what+", "+name+", the other one first", want, g)
		wantKept(t, what+", "+name+", the other one first", alone(g), 0)
	}
}

func TestTwoInOneBlock(t *testing.T) {
	eachTwo(t, "side by side", false, func(first, second, idle []api.Ins) []api.Block {
		return []api.Block{block(back(0), slices.Concat(first, second)...)}
	})
	eachTwo(t, "something between", false, func(first, second, idle []api.Ins) []api.Block {
		return []api.Block{block(back(0), slices.Concat(first, idle, second)...)}
	})
	eachTwo(t, "in a block that is not the entry", false, func(first, second, idle []api.Ins) []api.Block {
		return []api.Block{block(branch(0, 1, 2), idle...), block(back(0)), block(back(0), slices.Concat(first, second)...)}
	})
	eachTwo(t, "one alone", true, func(first, second, idle []api.Ins) []api.Block {
		return []api.Block{block(back(0), slices.Concat(idle, first)...)}
	})
	eachTwo(t, "in a loop", false, func(first, second, idle []api.Ins) []api.Block {
		return []api.Block{block(jump(1)), block(branch(0, 1, 2), slices.Concat(first, idle, second)...), block(back(0))}
	})
	eachTwo(t, "one alone in a loop, each time round anew", true, func(first, second, idle []api.Ins) []api.Block {
		return []api.Block{block(jump(1)), block(branch(0, 1, 2), slices.Concat(first, idle)...), block(back(0))}
	})
}

func TestTwoInBlocksOverEachOther(t *testing.T) {
	eachTwo(t, "near", false, func(first, second, idle []api.Ins) []api.Block {
		return []api.Block{block(jump(1), slices.Concat(first, idle)...), block(back(0), second...)}
	})
	eachTwo(t, "near, by numbers the other way round", false, func(first, second, idle []api.Ins) []api.Block {
		return []api.Block{block(jump(2)), block(back(0), second...), block(jump(1), slices.Concat(first, idle)...)}
	})
	eachTwo(t, "behind a diamond", false, func(first, second, idle []api.Ins) []api.Block {
		return []api.Block{block(branch(0, 1, 2), first...), block(jump(3), idle...), block(jump(3)), block(back(0), second...)}
	})
	eachTwo(t, "in one side of a diamond", false, func(first, second, idle []api.Ins) []api.Block {
		return []api.Block{block(branch(0, 1, 2), first...), block(jump(3), idle...), block(jump(3), second...), block(back(0))}
	})
	eachTwo(t, "at the head of a loop, and in it", false, func(first, second, idle []api.Ins) []api.Block {
		return []api.Block{block(jump(1)), block(branch(0, 2, 3), first...), block(jump(1), slices.Concat(idle, second)...), block(back(0))}
	})
	eachTwo(t, "at the head of a loop, and behind it", false, func(first, second, idle []api.Ins) []api.Block {
		return []api.Block{block(jump(1)), block(branch(0, 2, 3), first...), block(jump(1), idle...), block(back(0), second...)}
	})
	eachTwo(t, "ahead of a loop, and in it", false, func(first, second, idle []api.Ins) []api.Block {
		return []api.Block{block(jump(1), first...), block(branch(0, 2, 3), idle...), block(jump(1), second...), block(back(0))}
	})
	eachTwo(t, "in a loop that is gone through once at least, and behind it", false, func(first, second, idle []api.Ins) []api.Block {
		return []api.Block{block(jump(1)), block(jump(2), first...), block(branch(0, 1, 3), idle...), block(back(0), second...)}
	})
	for _, far := range []int{2, 10, 100} {
		eachTwo(t, "far off", false, func(first, second, idle []api.Ins) []api.Block {
			blocks := []api.Block{block(jump(1), first...)}
			for i := 1; i < far; i++ {
				blocks = append(blocks, block(branch(0, i+1, far+1)))
			}
			return append(blocks, block(back(0), slices.Concat(idle, second)...), block(trap(1)))
		})
	}
}

func TestTwoInBlocksBesideEachOther(t *testing.T) {
	eachTwo(t, "both sides of a branch", true, func(first, second, idle []api.Ins) []api.Block {
		return []api.Block{block(branch(0, 1, 2), idle...), block(back(0), first...), block(back(0), second...)}
	})
	eachTwo(t, "both sides of a diamond", true, func(first, second, idle []api.Ins) []api.Block {
		return []api.Block{block(branch(0, 1, 2)), block(jump(3), first...), block(jump(3), second...), block(back(0), idle...)}
	})
	eachTwo(t, "one side of a diamond, and behind it", true, func(first, second, idle []api.Ins) []api.Block {
		return []api.Block{block(branch(0, 1, 2), idle...), block(jump(3), first...), block(jump(3)), block(back(0), second...)}
	})
	eachTwo(t, "one side that may be left out, and behind it", true, func(first, second, idle []api.Ins) []api.Block {
		return []api.Block{block(branch(0, 1, 2), idle...), block(jump(2), first...), block(back(0), second...)}
	})
	eachTwo(t, "the middle of a loop, and behind it", true, func(first, second, idle []api.Ins) []api.Block {
		return []api.Block{block(jump(1)), block(branch(0, 2, 3), idle...), block(jump(1), first...), block(back(0), second...)}
	})
	eachTwo(t, "far below both sides of a branch", true, func(first, second, idle []api.Ins) []api.Block {
		return []api.Block{block(branch(0, 1, 3), idle...), block(jump(2)), block(back(0), first...), block(jump(4)), block(jump(5)), block(back(0), second...)}
	})
	eachTwo(t, "two ways into a loop", true, func(first, second, idle []api.Ins) []api.Block {
		return []api.Block{block(branch(0, 1, 2), idle...), block(branch(0, 2, 3), first...), block(jump(1), second...), block(back(0))}
	})
}

// One that stands over another one, and one beside: whichever the third one comes behind.
func TestThree(t *testing.T) {
	three := func(vars []api.Type, one, two, three api.Ins) api.Graph {
		return typed(1, vars, block(branch(0, 1, 2)), block(branch(0, 3, 4), one), block(back(0), two), block(back(0), three), block(trap(1)))
	}
	vars := []api.Type{api.Bool, api.I32, api.I32, api.I32}
	wantClean(t, "the third one as the first one", false, three(vars, number(1, 5), number(2, 6), number(3, 5)))
	wantClean(t, "the third one as the second one", true, three(vars, number(1, 5), number(2, 6), number(3, 6)))
	wantClean(t, "all alike", false, three(vars, number(1, 6), number(2, 6), number(3, 6)))
	wantClean(t, "the first two alike", true, three(vars, number(1, 6), number(2, 6), number(3, 5)))
}

// What is not set once is not clean, though nothing is reckoned twice in it.
func TestNotSetOnce(t *testing.T) {
	for what, g := range notOnce() {
		wantClean(t, what, false, g)
	}
	eachRefused(t, "a block that is not reached, with both", func(first, second []api.Ins) []api.Block {
		return []api.Block{block(back(0)), block(back(0), slices.Concat(first, second)...)}
	})
	eachRefused(t, "a block that is not reached, with one", func(first, second []api.Ins) []api.Block {
		return []api.Block{block(back(0), first...), block(back(0), second...)}
	})
	eachRefused(t, "a block that is not reached, with nothing", func(first, second []api.Ins) []api.Block {
		return []api.Block{block(back(0), first...), block(back(0))}
	})
	eachRefused(t, "a circle that is not reached", func(first, second []api.Ins) []api.Block {
		return []api.Block{block(back(0), first...), block(jump(2)), block(jump(1))}
	})
	eachRefused(t, "set by both", func(first, second []api.Ins) []api.Block {
		return []api.Block{block(branch(0, 1, 2)), block(back(0), first...), block(back(0), first...)}
	})
}

// eachRefused asks, for each two that are reckoned alike, of a graph with them that is not set once.
func eachRefused(t *testing.T, what string, put func(first, second []api.Ins) []api.Block) {
	t.Helper()
	for name, x := range two {
		g := typed(2, x.vars, put([]api.Ins{x.first}, []api.Ins{x.second})...)
		wantClean(t, what+", "+name, false, g)
		wantRefused(t, what+", "+name, api.ErrShape, alone(g), 0)
	}
}

// notOnce are graphs that are right, but not set once.
func notOnce() map[string]api.Graph {
	return map[string]api.Graph{
		"two settings":                   truths(1, 2, block(jump(1), number(1, 0)), block(back(1), number(1, 1))),
		"a parameter that is set":        truths(1, 1, block(back(0), number(0, 1))),
		"never set":                      truths(0, 1, block(back(0))),
		"a copy of what is never set":    truths(1, 3, block(back(0), copyOf(1, 2))),
		"a copy of itself":               truths(1, 2, block(back(0), copyOf(1, 1))),
		"an operation on itself":         truths(1, 2, block(back(0), op(api.OpEq, 1, 1, 1))),
		"set behind its use":             truths(0, 2, block(back(0), not(1, 0), number(0, 1))),
		"set in a block beside":          truths(1, 2, block(branch(0, 1, 2)), block(back(1)), block(back(1), number(1, 1))),
		"a phi of what is set elsewhere": truths(1, 3, block(branch(0, 1, 2)), block(jump(2), number(1, 1)), block(back(2), phi(2, 1, 1))),
		"a block that is not reached":    truths(1, 1, block(back(0)), block(back(0))),
		"a copy that is not reached":     truths(1, 2, block(back(0)), block(back(0), copyOf(1, 0))),
		"a circle that is not reached":   truths(1, 1, block(back(0)), block(jump(1))),
	}
}

// A copy, of whatever, wherever it stands, asked or not.
func TestCopies(t *testing.T) {
	for _, typ := range types {
		wantClean(t, "of a parameter", false, graphOf(typ, 1, 2, block(back(1), copyOf(1, 0))))
		wantClean(t, "that nobody asks", false, graphOf(typ, 1, 2, block(back(0), copyOf(1, 0))))
		wantClean(t, "of a constant", false, graphOf(typ, 1, 3, block(back(2), number(1, 0), copyOf(2, 1))))
		wantClean(t, "no copy", true, graphOf(typ, 1, 3, block(back(1), number(1, 0))))
	}
	net := func(at int, x api.Ins) api.Graph {
		g := truths(1, 4, block(branch(0, 1, 2)), block(branch(0, 3, 1)), block(jump(3)), block(branch(0, 4, 5), phi(2, 0, 0)), block(back(2)), block(trap(1)))
		g.Blocks[at].Ins = append(g.Blocks[at].Ins, x)
		return g
	}
	for at := range 6 {
		wantClean(t, "in any block", false, net(at, copyOf(3, 0)))
		wantClean(t, "something else in any block", true, net(at, not(3, 0)))
	}
	wantClean(t, "of a phi", false, net(4, copyOf(3, 2)))
}

// Arguments the other way round are the same for some operations, and for none of the others.
func TestArgumentsTheOtherWayRound(t *testing.T) {
	alike := []api.Op{api.OpAdd, api.OpMul, api.OpAnd, api.OpOr, api.OpXor, api.OpEq, api.OpNe}
	tried := 0
	for o := api.OpAdd; o <= api.OpGe; o++ {
		for _, typ := range types {
			result, ok := scalar.Of(o, typ)
			if !ok {
				continue
			}
			tried++
			vars := []api.Type{typ, typ, result, result, typ}
			g := func(x, y api.Ins) api.Graph { return typed(2, vars, block(back(0), x, y, show(2), show(3))) }
			turned := slices.Contains(alike, o)
			wantClean(t, "turned", !turned, g(op(o, 2, 0, 1), op(o, 3, 1, 0)))
			wantClean(t, "turned back", !turned, g(op(o, 2, 1, 0), op(o, 3, 0, 1)))
			wantClean(t, "not turned", false, g(op(o, 2, 0, 1), op(o, 3, 0, 1)))
			wantClean(t, "not turned back", false, g(op(o, 2, 1, 0), op(o, 3, 1, 0)))
			wantClean(t, "of itself", false, g(op(o, 2, 1, 1), op(o, 3, 1, 1)))
			wantClean(t, "the first one otherwise", true, g(op(o, 2, 0, 1), op(o, 3, 1, 1)))
			wantClean(t, "the second one otherwise", true, g(op(o, 2, 0, 1), op(o, 3, 0, 0)))
			wantClean(t, "of both themselves", true, g(op(o, 2, 0, 0), op(o, 3, 1, 1)))
			for _, x := range []api.Graph{g(op(o, 2, 0, 1), op(o, 3, 1, 0)), g(op(o, 2, 1, 0), op(o, 3, 1, 0)), g(op(o, 2, 0, 1), op(o, 3, 1, 1))} {
				wantKept(t, "two operations", alone(x), 0)
			}
		}
	}
	if tried != 4*4+3+3*4+2*3+2*5+4*4 {
		t.Errorf("%d operations were tried", tried)
	}
}

// Two instructions that differ in one thing alone are not reckoned alike.
func TestOneThingOtherwise(t *testing.T) {
	i := api.I64
	ones := func(x, y api.Ins) api.Graph {
		g := typed(2, []api.Type{i, i, i, i}, block(back(0), x, y, show(2), show(3)))
		g.Arrays = []api.Array{{Type: i, Size: 3}}
		return g
	}
	clean := func(what string, g api.Graph) {
		t.Helper()
		wantClean(t, what, true, g)
		wantBecome(t, what, g, g.Blocks...)
	}
	// The Kind: what is set is of one type, what is asked the same, all else 0.
	clean("a cast and a load", ones(cast(2, 0), load(3, 0, 0)))
	clean("a load and a cast", ones(load(2, 0, 0), cast(3, 0)))
	clean("a cast and a call", typed(1, []api.Type{i, i, i}, block(back(0), call(0, 1, 0), cast(2, 0))))
	clean("a phi and a cast", typed(1, []api.Type{i, i, i}, block(jump(1)), block(back(0), phi(1, 0), cast(2, 0), show(1), show(2))))
	// The Op.
	for a := api.OpAdd; a <= api.OpShr; a++ {
		for b := api.OpAdd; b <= api.OpShr; b++ {
			if a != b {
				clean("operations of two numbers", ones(op(a, 2, 0, 1), op(b, 3, 0, 1)))
			}
		}
	}
	clean("operations of one number", ones(op(api.OpNeg, 2, 1), op(api.OpNot, 3, 1)))
	for a := api.OpEq; a <= api.OpGe; a++ {
		for b := api.OpEq; b <= api.OpGe; b++ {
			if a != b {
				clean("comparisons", typed(2, []api.Type{i, i, api.Bool, api.Bool}, block(back(0), op(a, 2, 0, 1), op(b, 3, 0, 1), show(2), show(3))))
			}
		}
	}
	// The Bits.
	for _, typ := range types {
		words := wordsOf(typ)
		for k, a := range words {
			for l, b := range words {
				g := graphOf(typ, 1, 3, block(back(0), number(1, a), number(2, b), show(1), show(2)))
				wantClean(t, "two words", k != l, g)
				wantKept(t, "two words", alone(g), 0)
			}
		}
	}
	// One argument.
	clean("casts of two variables", ones(cast(2, 0), cast(3, 1)))
	clean("operations on two variables", ones(op(api.OpNeg, 2, 0), op(api.OpNeg, 3, 1)))
	clean("the first one", ones(op(api.OpAdd, 2, 0, 1), op(api.OpAdd, 3, 1, 1)))
	clean("the second one", ones(op(api.OpAdd, 2, 0, 1), op(api.OpAdd, 3, 0, 0)))
	clean("what the other one sets", ones(op(api.OpNeg, 2, 0), op(api.OpNeg, 3, 2)))
}

// The type of what is set: a constant's, a cast's. (An operation's hangs on what it asks.)
func TestTypesOfWhatIsSet(t *testing.T) {
	for _, a := range types {
		for _, b := range types {
			for w := range uint64(2) {
				g := typed(1, []api.Type{api.Bool, a, b}, block(back(0), number(1, w), number(2, w), show(1), show(2)))
				wantClean(t, "constants", a != b, g)
				wantKept(t, "constants", alone(g), 0)
			}
			for _, from := range types[1:] {
				if a == api.Bool || b == api.Bool {
					continue
				}
				g := typed(1, []api.Type{from, a, b}, block(back(0), cast(1, 0), cast(2, 0), show(1), show(2)))
				wantClean(t, "casts", a != b, g)
				wantKept(t, "casts", alone(g), 0)
			}
		}
	}
}

// What is none of the three kinds is not looked at, however alike two of them are.
func TestWhatIsNotLookedAt(t *testing.T) {
	g := truths(1, 9, block(jump(1)), block(branch(0, 1, 2), phi(1, 0, 1), phi(2, 0, 1), phi(3, 0, 3), phi(4, 0, 3)), block(back(4), phi(5, 1), phi(6, 1), show(2)))
	wantClean(t, "phis of the same", true, g)
	wantBecome(t, "phis of the same", g, g.Blocks...)
	calls := []api.Ins{call(1, 1, 0), call(1, 2, 0), show(1), show(1), call(0, 3, 0), call(0, 4, 0)}
	wantClean(t, "calls of the same", true, truths(1, 5, block(back(0), calls...)))
	p := []api.Graph{truths(1, 5, block(back(0), calls...)), truths(1, 1, block(back(0), show(0), show(0)))}
	if h := wantKept(t, "calls of the same", p, 0); !sameGraph(h, p[0]) {
		t.Errorf("%v becomes %v", p[0], h)
	}
	h := typed(2, []api.Type{api.I64, api.U8, api.U8, api.U8, api.U8}, block(jump(1), load(2, 0, 0), load(3, 0, 0), store(0, 0, 1), store(0, 0, 1), wipe(0), wipe(0)), block(back(0), load(4, 0, 0), show(2), show(2)))
	h.Arrays = []api.Array{{Type: api.U8, Size: 4}}
	wantClean(t, "loads, stores, clears, prints", true, h)
	wantBecome(t, "loads, stores, clears, prints", h, h.Blocks...)
}

// What a call names plays no part: it need not be there.
func TestCallsOfWhatIsNotThere(t *testing.T) {
	for _, ref := range []int{0, 1, 63, 64, 1 << 40} {
		wantClean(t, "a call", true, truths(1, 4, block(back(2), call(ref, 1, 0, 0), call(ref, 2, 1, 1, 1, 0, 0, 0, 0, 0, 0, 0), not(3, 2))))
		wantClean(t, "a call between two", false, truths(1, 4, block(back(2), not(2, 0), call(ref, 1, 0, 0), not(3, 0))))
	}
	wantClean(t, "a call of what is below 0", false, truths(1, 2, block(back(0), call(-1, 1, 0))))
}

// Variables that nobody sets, or asks, are in nobody's way.
func TestNothingIsReckoned(t *testing.T) {
	for what, g := range map[string]api.Graph{
		"no variable":                     {Name: "g", Result: api.U8, Blocks: []api.Block{block(trap(3))}},
		"no variable, a circle":           {Result: api.F64, Blocks: []api.Block{block(jump(1)), block(jump(1))}},
		"no variable, an array":           {Result: api.U8, Arrays: []api.Array{{Type: api.F64, Size: 2}}, Blocks: []api.Block{block(jump(1), wipe(0)), block(trap(1), wipe(0))}},
		"variables that nobody sets":      truths(1, 4, block(back(0))),
		"parameters that nobody asks":     truths(2, 2, block(trap(1))),
		"a parameter that is told, twice": truths(1, 1, block(branch(0, 1, 2)), block(back(0)), block(back(0))),
	} {
		wantClean(t, what, true, g)
		wantBecome(t, what, g, g.Blocks...)
	}
}
