package ssa_test

import (
	"slices"
	"testing"

	"smithy/api"
	"smithy/ssa"
)

// wantOnce asks for what is said here, and that the words say so.
func wantOnce(t *testing.T, what string, want bool, g api.Graph) {
	t.Helper()
	if isOnce(g) != want {
		t.Fatalf("%s: the words say otherwise of %v", what, g)
	}
	wantIs(t, what, want, g)
}

func TestSetTwice(t *testing.T) {
	wantOnce(t, "by nothing", true, truths(1, 2, block(back(0))))
	wantOnce(t, "by one instruction", true, truths(0, 2, block(back(0), constant(0))))
	wantOnce(t, "by two instructions", false, truths(0, 2, block(back(0), constant(0), constant(0))))
	wantOnce(t, "by two that nobody asks", false, truths(1, 2, block(back(0), constant(1), constant(1))))
	wantOnce(t, "by a parameter and an instruction", false, truths(1, 2, block(back(0), constant(0))))
	wantOnce(t, "by a parameter and an instruction elsewhere", false, truths(2, 2, block(jump(1)), block(back(0), constant(1))))
	wantOnce(t, "in two blocks", false, truths(1, 2, block(branch(0, 1, 2)), block(back(1), constant(1)), block(back(1), constant(1))))
	wantOnce(t, "in one block over the other", false, truths(1, 2, block(jump(1), constant(1)), block(back(1), constant(1))))
	wantOnce(t, "by a phi and an instruction", false, truths(1, 2, block(jump(1)), block(back(1), phi(1, 0), constant(1))))
	wantOnce(t, "by a phi and an instruction ahead", false, truths(1, 2, block(jump(1), constant(1)), block(back(1), phi(1, 0))))
	wantOnce(t, "by a phi and a parameter", false, truths(2, 2, block(jump(1)), block(back(1), phi(1, 0))))
	wantOnce(t, "by two phis", false, truths(1, 2, block(jump(1)), block(jump(2), phi(1, 0)), block(back(1), phi(1, 0))))
	wantOnce(t, "by calls", false, truths(1, 2, block(back(1), call(0, 1), call(0, 1))))
	wantOnce(t, "by two calls of their own", true, truths(1, 3, block(back(1), call(0, 1), call(0, 2))))
}

// What has no Dst sets nothing, though its Dst is 0.
func TestWhatSetsNothing(t *testing.T) {
	g := truths(1, 2, block(trap(1), show(0), show(0), wipe(0), wipe(0)), block(back(0)))
	g.Arrays = []api.Array{{Type: api.Bool, Size: 2}}
	g.Vars = append(g.Vars, api.I64)
	g.Blocks = []api.Block{block(back(0), number(2, 1), store(0, 2, 0), store(0, 2, 0), wipe(0), show(0), load(1, 0, 2))}
	wantOnce(t, "stores, clears and prints", true, g)
}

func TestNeverSet(t *testing.T) {
	wantOnce(t, "a return", false, truths(0, 1, block(back(0))))
	wantOnce(t, "a branch", false, truths(1, 2, block(branch(1, 1, 1)), block(back(0))))
	wantOnce(t, "an instruction", false, truths(1, 2, block(back(0), show(1))))
	wantOnce(t, "the last argument of a call", false, truths(1, 3, block(back(0), call(0, 2, 0, 0, 1))))
	wantOnce(t, "a phi's argument", false, truths(1, 3, block(branch(0, 1, 2)), block(jump(2)), block(back(0), phi(2, 0, 1))))
	wantOnce(t, "a phi's argument, none other", false, truths(1, 3, block(jump(1)), block(back(0), phi(2, 1))))
	wantOnce(t, "in a block further on", false, truths(1, 2, block(jump(1)), block(back(1))))
	wantOnce(t, "nobody asks", true, truths(1, 5, block(back(0))))
	// An end that asks nothing has 0 as its Arg, too.
	wantOnce(t, "a jump and a trap", true, truths(0, 1, block(jump(1)), block(trap(2))))
}

func TestUsesInOneBlock(t *testing.T) {
	wantOnce(t, "behind", true, truths(0, 2, block(back(1), constant(0), not(1, 0))))
	wantOnce(t, "ahead", false, truths(0, 2, block(back(1), not(1, 0), constant(0))))
	wantOnce(t, "in the instruction itself", false, truths(1, 2, block(back(1), not(1, 1))))
	wantOnce(t, "in the instruction itself, beside another", false, truths(1, 2, block(back(1), op(api.OpEq, 1, 0, 1))))
	wantOnce(t, "by a print ahead", false, truths(0, 2, block(back(0), show(0), constant(0))))
	wantOnce(t, "by a print behind", true, truths(0, 2, block(back(0), constant(0), show(0))))
	wantOnce(t, "by the block's end", true, truths(0, 2, block(branch(0, 1, 1), constant(0)), block(trap(1))))
	wantOnce(t, "a parameter by the first one", true, truths(1, 2, block(back(1), not(1, 0))))
	wantOnce(t, "a phi by the one behind it", true, truths(1, 3, block(jump(1)), block(back(2), phi(1, 0), not(2, 1))))
	// Each time round a loop it was set the time before: but not the first time.
	wantOnce(t, "ahead, in a loop", false, truths(1, 2, block(jump(1)), block(branch(0, 1, 2), show(1), constant(1)), block(back(0))))
}

func TestUsesInOtherBlocks(t *testing.T) {
	diamond := func(entry, left, right, last []api.Ins, told int) api.Graph {
		return truths(1, 4, block(branch(0, 1, 2), entry...), block(jump(3), left...), block(jump(3), right...), block(back(told), last...))
	}
	set, ask := []api.Ins{constant(1)}, []api.Ins{show(1)}
	wantOnce(t, "the entry's, in a block", true, diamond(set, ask, nil, nil, 0))
	wantOnce(t, "the entry's, behind all", true, diamond(set, nil, nil, ask, 1))
	wantOnce(t, "a block's, in the entry", false, diamond(ask, set, nil, nil, 0))
	wantOnce(t, "a block's, in the one beside", false, diamond(nil, set, ask, nil, 0))
	wantOnce(t, "a block's, where it joins the other", false, diamond(nil, set, nil, ask, 0))
	wantOnce(t, "a block's, at the end where it joins", false, diamond(nil, set, nil, nil, 1))
	wantOnce(t, "the last one's, in one ahead", false, diamond(nil, ask, nil, set, 0))
	// The setting's block stands over the use's by its number, or against it.
	wantOnce(t, "a block of a greater number", true, truths(1, 2, block(jump(2)), block(back(1)), block(jump(1), constant(1))))
	wantOnce(t, "a loop's, in its body", true, truths(1, 2, block(jump(1)), block(branch(0, 2, 3), constant(1)), block(jump(1), show(1)), block(back(1))))
	wantOnce(t, "a loop's body's, in its head", false, truths(1, 2, block(jump(1)), block(branch(0, 2, 3), show(1)), block(jump(1), constant(1)), block(back(0))))
	wantOnce(t, "a loop's body's, behind it", false, truths(1, 2, block(jump(1)), block(branch(0, 2, 3)), block(jump(1), constant(1)), block(back(1))))
	wantOnce(t, "two ways into a loop", false, truths(1, 2, block(branch(0, 1, 2)), block(branch(0, 2, 3), constant(1)), block(jump(1), show(1)), block(back(0))))
}

func TestUsesByPhis(t *testing.T) {
	// The phi of block 3 has an argument for 1 and one for 2.
	meet := func(one, two int) api.Graph {
		return truths(1, 6, block(branch(0, 1, 2), constant(1)), block(jump(3), constant(2)), block(jump(3), constant(3)), block(back(4), phi(4, one, two), not(5, 4)))
	}
	for one := range 6 {
		for two := range 6 {
			want := slices.Contains(row(0, 1, 2), one) && slices.Contains(row(0, 1, 3), two)
			wantOnce(t, "a phi where two meet", want, meet(one, two))
		}
	}
	// Its own block is ahead of it: there its own variable is set, and those that the block sets.
	loop := func(one, two, third, fourth int) api.Graph {
		return truths(1, 4, block(jump(1)), block(branch(0, 1, 2), phi(1, one, two), phi(2, third, fourth), not(3, 1)), block(back(2)))
	}
	for one := range 4 {
		for two := range 4 {
			for third := range 4 {
				for fourth := range 4 {
					wantOnce(t, "phis of a block that leads to itself", one == 0 && third == 0, loop(one, two, third, fourth))
				}
			}
		}
	}
	// Arguments stand in the order of the blocks' numbers, whichever was reached first.
	turned := truths(1, 5, block(branch(0, 2, 1)), block(jump(3), constant(1)), block(jump(3), constant(2)), block(back(3), phi(3, 1, 2)))
	wantOnce(t, "by the blocks' numbers", true, turned)
	turned.Blocks[3].Ins[0].Args = row(2, 1)
	wantOnce(t, "against the blocks' numbers", false, turned)
	one := truths(1, 3, block(branch(0, 1, 1), constant(1)), block(back(2), phi(2, 1)))
	wantOnce(t, "both ends of a branch, one argument", true, one)
	one.Blocks[1].Ins[0].Args = row(1, 1)
	wantOnce(t, "both ends of a branch, two arguments", false, one)
}

// Phis in loops in loops, which ask one another.
func TestPhisOfLoops(t *testing.T) {
	nest := func(outer, inner int) api.Graph {
		return truths(1, 4,
			block(jump(1)),
			block(jump(2), phi(1, 0, outer)),
			block(branch(2, 2, 3), phi(2, 1, inner)),
			block(branch(1, 1, 4), not(3, 2)),
			block(back(2)),
		)
	}
	for outer := range 4 {
		for inner := range 4 {
			wantOnce(t, "loops in loops", inner != 3, nest(outer, inner))
		}
	}
}

func TestNotReached(t *testing.T) {
	wantOnce(t, "a block alone", false, truths(1, 1, block(back(0)), block(back(0))))
	wantOnce(t, "a block that leads to one that is reached", false, truths(1, 1, block(jump(1)), block(back(0)), block(jump(1))))
	wantOnce(t, "a block that leads to itself", false, truths(1, 1, block(back(0)), block(jump(1))))
	wantOnce(t, "two that lead to each other", false, truths(1, 1, block(back(0)), block(jump(2)), block(jump(1))))
	wantOnce(t, "all reached", true, truths(1, 1, block(branch(0, 1, 2)), block(back(0)), block(jump(1))))
}

func TestCallsOfWhatIsNotThere(t *testing.T) {
	for _, ref := range []int{0, 1, 63, 64, 1 << 40} {
		wantOnce(t, "a call", true, truths(1, 3, block(back(2), call(ref, 1, 0, 0), call(ref, 2, 1, 1, 1, 0, 0, 0, 0, 0, 0, 0))))
	}
	wantOnce(t, "a call of what is below 0", false, truths(1, 3, block(back(0), call(-1, 1, 0))))
	wantOnce(t, "a call that sets what it asks", false, truths(1, 3, block(back(0), call(3, 1, 0, 1))))
}

func TestNotRightByItself(t *testing.T) {
	wantIs(t, "nothing at all", false, api.Graph{})
	wantIs(t, "no block", false, api.Graph{Result: api.I64})
	sound := func() api.Graph {
		return truths(1, 3, block(branch(0, 1, 2)), block(jump(2), constant(1)), block(back(2), phi(2, 0, 1)))
	}
	wantOnce(t, "a sound graph", true, sound())
	for what, bend := range map[string]func(g *api.Graph){
		"a jump to the entry":        func(g *api.Graph) { g.Blocks[1].Term = jump(0) },
		"a jump to nothing":          func(g *api.Graph) { g.Blocks[1].Term = jump(3) },
		"no end":                     func(g *api.Graph) { g.Blocks[2].Term = api.Term{} },
		"no result":                  func(g *api.Graph) { g.Result = api.NoType },
		"a result of another type":   func(g *api.Graph) { g.Result = api.I64 },
		"a variable of no type":      func(g *api.Graph) { g.Vars[1] = api.NoType },
		"a parameter twice":          func(g *api.Graph) { g.Params = row(0, 0) },
		"a parameter that is none":   func(g *api.Graph) { g.Params = row(3) },
		"too few arguments":          func(g *api.Graph) { g.Blocks[2].Ins[0].Args = row(0) },
		"too many arguments":         func(g *api.Graph) { g.Blocks[2].Ins[0].Args = row(0, 1, 1) },
		"an argument that is none":   func(g *api.Graph) { g.Blocks[2].Ins[0].Args = row(0, -1) },
		"a phi behind something":     func(g *api.Graph) { g.Blocks[2].Ins = []api.Ins{show(0), phi(2, 0, 1)} },
		"a phi of the entry":         func(g *api.Graph) { g.Blocks[0].Ins = []api.Ins{phi(2)}; g.Blocks[2].Ins = nil },
		"a word that is none":        func(g *api.Graph) { g.Blocks[1].Ins[0].Bits = 2 },
		"a kind that is none":        func(g *api.Graph) { g.Blocks[1].Ins[0].Kind = 11 },
		"an array without elements":  func(g *api.Graph) { g.Arrays = []api.Array{{Type: api.U8}} },
		"a variable that is no name": func(g *api.Graph) { g.Blocks[1].Ins[0].Dst = 3 },
	} {
		g := sound()
		bend(&g)
		wantOnce(t, what, false, g)
	}
}

// Graphs that were built, with one thing or two that are otherwise: some are set once still.
func TestBentGraphs(t *testing.T) {
	m := maker{odds: firstOdd}
	once, not := 0, 0
	for range 12000 {
		p, f := m.program()
		if m.often(50) {
			p, f = []api.Graph{m.truths(1+m.below(10), 1+m.below(5), 50)}, 0
		}
		g, e := ssa.Build(p, f)
		if e != api.OK {
			t.Fatalf("%v, %d: %d", p, f, e)
		}
		for range 1 + m.below(2) {
			m.bend(&g)
		}
		want := isOnce(g)
		if want {
			once++
		} else {
			not++
		}
		if wantIs(t, "a bent graph", want, g); t.Failed() {
			return
		}
	}
	if once < 2000 || not < 2000 {
		t.Errorf("%d were set once, %d were not", once, not)
	}
}

// bend changes one thing of a graph so that it is mostly right by itself still.
func (m *maker) bend(g *api.Graph) {
	b := &g.Blocks[m.below(len(g.Blocks))]
	at := len(b.Ins)
	if at > 0 {
		at = m.below(at)
	}
	switch what := m.below(8); {
	case what == 0 && len(g.Blocks) > 1:
		b.Term.To[m.below(2)] = 1 + m.below(len(g.Blocks)-1)
	case what == 1 && endAsks(b.Term):
		b.Term.Arg = m.of(*g, g.Vars[b.Term.Arg])
	case what == 2:
		g.Blocks = append(g.Blocks, block(trap(1)))
	case what == 3 && len(g.Vars) > 0 && len(g.Params) < api.MaxParams:
		g.Params = append(g.Params, m.below(len(g.Vars)))
	case at == len(b.Ins):
	case what == 4:
		other := m.below(len(b.Ins))
		b.Ins[at], b.Ins[other] = b.Ins[other], b.Ins[at]
	case what == 5:
		b.Ins = slices.Delete(b.Ins, at, at+1)
	case what == 6 && sets(b.Ins[at], b.Ins[at].Dst):
		b.Ins[at].Dst = m.of(*g, g.Vars[b.Ins[at].Dst])
	case len(b.Ins[at].Args) > 0:
		i := m.below(len(b.Ins[at].Args))
		b.Ins[at].Args[i] = m.of(*g, g.Vars[b.Ins[at].Args[i]])
	}
}
