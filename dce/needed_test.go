package dce_test

import (
	"fmt"
	"slices"
	"testing"

	"smithy/api"
)

// bare is a graph of numbers, and two truths behind them (10, 11), whose one block asks nothing by its end.
func bare(ins ...api.Ins) api.Graph {
	g := numbers(0, 10, block(trap(1), ins...))
	g.Vars = append(g.Vars, api.Bool, api.Bool)
	return g
}

// What asks by itself, each alone.
func TestWhatAsks(t *testing.T) {
	for v := range 10 {
		w := (v + 3) % 10
		wantNeeded(t, "a store", bare(store(0, v, w)), v, w)
		wantNeeded(t, "a store of its index", bare(store(0, v, v)), v)
		wantNeeded(t, "a print", bare(show(v)), v)
		wantNeeded(t, "a call of one", bare(call(0, w, v)), v)
		wantNeeded(t, "a call of some", bare(call(3, 0, v, w, 5, v)), v, w, 5)
		wantNeeded(t, "a call of all types", bare(call(3, 0, 11, v)), v, 11)
		wantNeeded(t, "a call of none", bare(call(0, v)))
		wantNeeded(t, "a return", numbers(0, 10, block(back(v))), v)
	}
	for _, v := range row(10, 11) {
		wantNeeded(t, "a print of a truth", bare(show(v)), v)
		g := withBlocks(bare(), block(branch(v, 1, 1)), block(trap(2)))
		wantNeeded(t, "a branch with one side", g, v)
		g = withBlocks(bare(), block(branch(v, 1, 2)), block(trap(2)), block(jump(1)))
		wantNeeded(t, "a branch", g, v)
	}
}

// Of each type there may be what asks.
func TestWhatAsksOfEachType(t *testing.T) {
	for _, typ := range types {
		g := graphOf(typ, 0, 3, block(trap(1)))
		g.Vars = append(g.Vars, api.I64)
		wantNeeded(t, "nothing", g)
		wantNeeded(t, "a return", withBlocks(g, block(back(1))), 1)
		wantNeeded(t, "a print", withBlocks(g, block(trap(1), show(2))), 2)
		wantNeeded(t, "a store", withBlocks(g, block(trap(1), store(0, 3, 0))), 0, 3)
		wantNeeded(t, "a call", withBlocks(g, block(trap(1), call(0, 3, 1))), 1)
	}
}

// What asks nothing, though its fields that are not named are 0, and a variable 0 there is.
func TestWhatAsksNothing(t *testing.T) {
	wantNeeded(t, "nothing at all", bare())
	wantNeeded(t, "a clear", bare(wipe(0)))
	for n := range 3 {
		wantNeeded(t, "a trap", withBlocks(bare(), block(trap(api.Trap(n+1)))))
	}
	wantNeeded(t, "a jump", withBlocks(bare(), block(jump(1)), block(trap(1))))
	wantNeeded(t, "a circle of jumps", withBlocks(bare(), block(jump(1)), block(jump(2)), block(jump(1))))
	all := []api.Ins{number(0, 5), copyOf(1, 0), sum(2, 0, 1), op(api.OpNeg, 3, 2), cast(4, 3), load(5, 0, 4), op(api.OpLt, 10, 0, 5), not(11, 10), wipe(0), call(0, 6)}
	g := bare(all...)
	wantNeeded(t, "all that but sets", g)
	wantBecome(t, "all that but sets", withBlocks(g, block(trap(1), all[:9]...)), block(trap(1), wipe(0)))
	g.Blocks = []api.Block{block(jump(1)), block(jump(1), append([]api.Ins{phi(7, 0, 7), phi(8, 7, 9)}, all...)...)}
	wantNeeded(t, "all that but sets, in a circle", g)
}

// link is an instruction that sets a variable of the type I64, and asks another one.
type link struct {
	name string
	make func(dst, arg int) api.Ins
}

var links = []link{
	{"phi", func(dst, arg int) api.Ins { return phi(dst, arg) }},
	{"copy", copyOf},
	{"op of one", func(dst, arg int) api.Ins { return op(api.OpNeg, dst, arg) }},
	{"op of two, the first", func(dst, arg int) api.Ins { return sum(dst, arg, dst) }},
	{"op of two, the second", func(dst, arg int) api.Ins { return op(api.OpShr, dst, dst, arg) }},
	{"cast", cast},
	{"load", func(dst, arg int) api.Ins { return load(dst, 0, arg) }},
}

// chain is a row of blocks, the block i of which sets the variable i from the one ahead; the last one shows what it has. If up is true, it sets it from the one behind, and the first one shows it.
func chain(n int, up bool, make func(i, dst, arg int) api.Ins) api.Graph {
	g := numbers(0, n+1, block(jump(1)))
	for i := 1; i < n; i++ {
		from := i - 1
		if up {
			from = i + 1
		}
		g.Blocks = append(g.Blocks, block(jump(i+1), make(i, i, from)))
	}
	g.Blocks = append(g.Blocks, block(trap(1)))
	last := n - 1
	if up {
		last = 1
	}
	g.Blocks[n].Ins = []api.Ins{show(last)}
	return g
}

// Chains of Args through each kind of instruction, down the blocks and up, in whichever order the blocks stand.
func TestChains(t *testing.T) {
	const n = 5
	for _, up := range []bool{false, true} {
		needed := counted(0, n)
		if up {
			needed = counted(1, n+1)
		}
		for _, order := range orders(n) {
			places := row(0)
			for _, i := range order {
				places = append(places, i+1)
			}
			for k, l := range links {
				what := fmt.Sprintf("%s, up %v, by the places %v", l.name, up, places)
				wantChain(t, what, renamed(chain(n, up, func(_, dst, arg int) api.Ins { return l.make(dst, arg) }), places, counted(0, n+1)), needed)
				mixed := chain(n, up, func(i, dst, arg int) api.Ins { return links[(i+k)%len(links)].make(dst, arg) })
				wantChain(t, "from "+what, renamed(mixed, places, counted(0, n+1)), needed)
			}
		}
	}
}

// wantChain asks that all of a chain is needed and stays; where nobody asks for its end, none is and all goes.
func wantChain(t *testing.T, what string, g api.Graph, needed []int) {
	t.Helper()
	wantNeeded(t, what, g, needed...)
	wantBecome(t, what, g, g.Blocks...)
	g = copied(g)
	for i, b := range g.Blocks {
		g.Blocks[i].Ins = slices.DeleteFunc(b.Ins, func(x api.Ins) bool { return x.Kind == api.InsPrint })
	}
	wantNeeded(t, what+", nobody asks", g)
	if h := wantKept(t, what+", nobody asks", alone(g), 0); countAll(h) > 0 {
		t.Errorf("%s: %v becomes %v", what, g, h)
	}
}

// orders are all orders of the numbers below n.
func orders(n int) [][]int {
	if n == 0 {
		return [][]int{nil}
	}
	var all [][]int
	for _, l := range orders(n - 1) {
		for at := range n {
			all = append(all, slices.Insert(slices.Clone(l), at, n-1))
		}
	}
	return all
}

// A chain is asked by each of what asks; a constant at its beginning is needed then.
func TestChainsByWhoAsks(t *testing.T) {
	rest := []api.Ins{number(0, 5), copyOf(1, 0), sum(2, 1, 1), number(3, 6), copyOf(4, 3)}
	asked := func(ins api.Ins) api.Graph { return bare(append(slices.Clone(rest), ins)...) }
	wantNeeded(t, "a store's index", asked(store(0, 2, 9)), 0, 1, 2, 9)
	wantNeeded(t, "a store's element", asked(store(0, 9, 2)), 0, 1, 2, 9)
	wantNeeded(t, "both", asked(store(0, 4, 2)), 0, 1, 2, 3, 4)
	wantNeeded(t, "a print", asked(show(2)), 0, 1, 2)
	wantNeeded(t, "a print of what lies between", asked(show(1)), 0, 1)
	wantNeeded(t, "a call's only argument", asked(call(0, 9, 2)), 0, 1, 2)
	wantNeeded(t, "a call's last argument", asked(call(0, 9, 8, 7, 4)), 3, 4, 7, 8)
	wantNeeded(t, "a clear", asked(wipe(0)))
	wantNeeded(t, "a return", withBlocks(bare(), block(back(2), rest...)), 0, 1, 2)
	wantNeeded(t, "a return of the other one", withBlocks(bare(), block(back(4), rest...)), 3, 4)
	g := withBlocks(bare(), block(branch(10, 1, 1), append(slices.Clone(rest), op(api.OpEq, 10, 2, 9))...), block(trap(1)))
	wantNeeded(t, "a branch", g, 0, 1, 2, 9, 10)
	g.Blocks[0].Term = branch(11, 1, 1)
	wantNeeded(t, "a branch on another one", g, 11)
}

// A call asks its Args whether its Dst is needed or not; what it sets ends the chain.
func TestCallsInChains(t *testing.T) {
	rest := []api.Ins{number(0, 5), copyOf(1, 0), call(3, 2, 1), copyOf(3, 2), call(4, 4), copyOf(5, 4)}
	wantNeeded(t, "nobody asks", bare(rest...), 0, 1)
	wantNeeded(t, "what it tells is asked", bare(append(slices.Clone(rest), show(3))...), 0, 1, 2, 3)
	wantNeeded(t, "a call of none is asked", bare(append(slices.Clone(rest), show(5))...), 0, 1, 4, 5)
	// A call asks what it sets itself.
	wantNeeded(t, "its own", bare(call(0, 1, 1)), 1)
	wantNeeded(t, "one another's", bare(call(0, 1, 2), call(0, 2, 1)), 1, 2)
	// A variable is set by a call and by others: who asks for it asks for all of them.
	g := numbers(1, 6, block(back(3), copyOf(1, 0), call(0, 3, 1), copyOf(3, 2), number(5, 1), copyOf(4, 5)))
	wantNeeded(t, "set by a call, too", g, 0, 1, 2, 3)
	wantBecome(t, "set by a call, too", g, block(back(3), copyOf(1, 0), call(0, 3, 1), copyOf(3, 2)))
	g.Blocks[0].Term = trap(1)
	wantNeeded(t, "set by a call, too, nobody asks", g, 0, 1)
	wantBecome(t, "set by a call, too, nobody asks", g, block(trap(1), copyOf(1, 0), call(0, 3, 1)))
}

// Blocks that are not reached count as all others do: what asks there, and what sets there.
func TestBlocksThatAreNotReached(t *testing.T) {
	g := numbers(1, 8,
		block(back(0), copyOf(2, 1), copyOf(3, 2)),
		block(trap(1), show(3), copyOf(5, 4)),
		block(jump(4), copyOf(4, 0)),
		block(jump(4), number(6, 7), copyOf(3, 6)),
		block(jump(4), phi(7, 5, 6, 7)),
	)
	wantNeeded(t, "what is not reached", g, 0, 1, 2, 3, 6)
	wantBecome(t, "what is not reached", g,
		block(back(0), copyOf(2, 1), copyOf(3, 2)), block(trap(1), show(3)), block(jump(4)), block(jump(4), number(6, 7), copyOf(3, 6)), block(jump(4)))
	g.Blocks[4].Ins = append(g.Blocks[4].Ins, store(0, 7, 7))
	wantNeeded(t, "a phi that is not reached", g, 0, 1, 2, 3, 4, 5, 6, 7)
	wantBecome(t, "a phi that is not reached", g, g.Blocks...)
	// Ends that are not reached ask, too.
	g = truths(0, 4, block(trap(1)), block(back(1)), block(branch(2, 1, 2)), block(jump(1), number(3, 1)))
	wantNeeded(t, "ends that are not reached", g, 1, 2)
}

func TestParameters(t *testing.T) {
	for _, params := range [][]int{nil, {0}, {0, 1, 2, 3}, {3, 1}, {2, 0, 4}} {
		g := bare(copyOf(1, 0), show(1), copyOf(3, 2))
		g.Params = params
		wantNeeded(t, "none of them asks", g, 0, 1)
		g = withBlocks(g, block(trap(3)))
		wantNeeded(t, "none is asked", g)
		g = withBlocks(g, block(back(3), copyOf(0, 1), copyOf(3, 0), number(1, 4)))
		wantNeeded(t, "they are set again", g, 0, 1, 3)
	}
	// A graph with as many as may be.
	g := numbers(8, 8, block(back(7)))
	wantNeeded(t, "the last one of eight", g, 7)
}

// A variable that is needed has each of its settings asked, wherever it stands: one that another one follows, too.
func TestVariablesSetInManyPlaces(t *testing.T) {
	g := truths(1, 10,
		block(branch(0, 1, 2), number(1, 1), copyOf(1, 2), copyOf(1, 3)),
		block(jump(3), copyOf(1, 4), copyOf(8, 9)),
		block(jump(3), copyOf(1, 5), copyOf(8, 1)),
		block(back(1), phi(1, 6, 7), phi(8, 0, 1)),
	)
	wantNeeded(t, "set in many places", g, 0, 1, 2, 3, 4, 5, 6, 7)
	wantBecome(t, "set in many places", g,
		block(branch(0, 1, 2), number(1, 1), copyOf(1, 2), copyOf(1, 3)), block(jump(3), copyOf(1, 4)), block(jump(3), copyOf(1, 5)), block(back(1), phi(1, 6, 7)))
	g.Blocks[3].Term = back(8)
	wantNeeded(t, "the other one, too", g, counted(0, 10)...)
	g.Blocks[3].Term = trap(2)
	wantNeeded(t, "neither", g, 0)
	wantBecome(t, "neither", g, block(branch(0, 1, 2)), block(jump(3)), block(jump(3)), block(trap(2)))
	// Set behind the only one who asks, and never ahead of it.
	g = truths(0, 4, block(trap(1), show(1), copyOf(1, 2)))
	wantNeeded(t, "set behind who asks", g, 1, 2)
	wantBecome(t, "set behind who asks", g, g.Blocks...)
}

// Circles ask themselves alone: through one instruction, one phi, several of them, several blocks.
func TestCirclesThatAskThemselves(t *testing.T) {
	circle := func(end api.Term, ins ...api.Ins) api.Graph {
		return truths(1, 8, block(jump(1)), block(branch(0, 2, 3), ins...), block(jump(1), copyOf(3, 2), not(6, 5)), block(end))
	}
	own := circle(trap(1), phi(1, 0, 1), op(api.OpXor, 2, 2, 2))
	wantNeeded(t, "each itself", own, 0)
	wantBecome(t, "each itself", own, block(jump(1)), block(branch(0, 2, 3)), block(jump(1)), block(trap(1)))
	blocks := circle(back(0), phi(2, 0, 3), phi(5, 0, 6), phi(7, 0, 7))
	wantNeeded(t, "through two blocks", blocks, 0)
	wantBecome(t, "through two blocks", blocks, block(jump(1)), block(branch(0, 2, 3)), block(jump(1)), block(back(0)))
	blocks.Blocks[3].Term = back(3)
	wantNeeded(t, "one of them is asked", blocks, 0, 2, 3)
	wantBecome(t, "one of them is asked", blocks, block(jump(1)), block(branch(0, 2, 3), phi(2, 0, 3)), block(jump(1), copyOf(3, 2)), block(back(3)))
	places := circle(trap(1), phi(1, 0, 4), phi(4, 0, 1))
	wantNeeded(t, "two that change places", places, 0)
	places.Blocks[3].Ins = []api.Ins{show(4)}
	wantNeeded(t, "two that change places, one of which is asked", places, 0, 1, 4)
	// A circle asks what was ahead of it; nobody asks for the circle.
	ahead := truths(1, 8, block(jump(1), number(7, 1), copyOf(6, 7)), block(branch(0, 1, 2), phi(1, 6, 1)), block(back(0)))
	wantNeeded(t, "what was ahead of it", ahead, 0)
	wantBecome(t, "what was ahead of it", ahead, block(jump(1)), block(branch(0, 1, 2)), block(back(0)))
	// A circle with one who asks in it stays, and all that it asks.
	ahead.Blocks[1].Ins = append(ahead.Blocks[1].Ins, show(1))
	wantNeeded(t, "with one who asks in it", ahead, 0, 1, 6, 7)
	wantBecome(t, "with one who asks in it", ahead, ahead.Blocks...)
}

func TestGraphsWithoutVariables(t *testing.T) {
	for _, g := range []api.Graph{
		truths(0, 0, block(trap(1))),
		truths(0, 0, block(trap(1), wipe(0), wipe(0))),
		truths(0, 0, block(jump(1)), block(jump(2), wipe(0)), block(jump(1)), block(trap(3))),
	} {
		wantNeeded(t, "without variables", g)
		wantBecome(t, "without variables", g, g.Blocks...)
	}
	none := truths(0, 0, block(trap(1)))
	none.Arrays = nil
	wantNeeded(t, "without arrays, too", none)
	wantBecome(t, "without arrays, too", none, none.Blocks...)
}

// What a call names plays no part in what is needed: it is asked of one graph by itself.
func TestCallsOfAnyGraph(t *testing.T) {
	for _, ref := range []int{0, 1, 63, 64, 1 << 40} {
		wantNeeded(t, "a call", bare(call(ref, 3, 1, 10, 2)), 1, 2, 10)
		wantNeeded(t, "a call of more than may be parameters", bare(call(ref, 3, slices.Repeat(counted(4, 8), 3)...)), 4, 5, 6, 7)
	}
}
