package tidy_test

import (
	"slices"
	"testing"

	"smithy/api"
	"smithy/ssa"
)

// notOnce are graphs that are right, but not set once.
func notOnce() map[string]api.Graph {
	return map[string]api.Graph{
		"two settings":                   truths(1, 2, block(branch(0, 1, 2), number(1, 0)), block(back(1), number(1, 1)), block(trap(1))),
		"a parameter that is set":        truths(1, 1, block(back(0), number(0, 1))),
		"never set":                      truths(0, 1, block(back(0))),
		"a copy of what is never set":    truths(1, 3, block(back(0), copyOf(1, 2))),
		"a copy of itself":               truths(1, 2, block(back(0), copyOf(1, 1))),
		"an operation on itself":         truths(1, 2, block(back(0), op(api.OpEq, 1, 1, 1))),
		"set behind its use":             truths(0, 2, block(back(0), not(1, 0), number(0, 1))),
		"set in a block beside":          truths(1, 2, block(branch(0, 1, 2)), block(back(1)), block(back(1), number(1, 1))),
		"a phi of what is set elsewhere": truths(1, 3, block(branch(0, 1, 2)), block(jump(2), number(1, 1)), block(back(2), phi(2, 1, 1))),
	}
}

// unreached are graphs that are right, and have blocks that are not reached.
func unreached() map[string]api.Graph {
	return map[string]api.Graph{
		"a block":                               truths(1, 1, block(back(0)), block(back(0))),
		"a block with something in it":          truths(1, 2, block(back(0)), block(trap(1), not(1, 0))),
		"a block that leads to what is reached": truths(1, 1, block(branch(0, 1, 2)), block(back(0)), block(trap(1)), block(branch(0, 1, 2))),
		"a block beside a phi for it":           truths(1, 2, block(branch(0, 1, 2)), block(jump(2), show(0)), block(back(1), phi(1, 0, 0, 0)), block(jump(2))),
		"a circle":                              truths(1, 1, block(back(0)), block(jump(2), show(0)), block(jump(1), show(0))),
		"a circle of empty blocks":              truths(1, 1, block(back(0)), block(jump(2)), block(jump(1))),
		"a circle of one":                       truths(1, 1, block(back(0)), block(jump(1))),
		"a circle of one that may be left":      truths(1, 1, block(branch(0, 2, 3)), block(branch(0, 1, 2)), block(back(0)), block(trap(1))),
	}
}

// A graph need not be set once to be clean.
func TestCleanThoughNotSetOnce(t *testing.T) {
	for what, g := range notOnce() {
		wantClean(t, what, true, g)
		if ssa.Is(g) {
			t.Errorf("%s: %v is set once", what, g)
		}
	}
	g := truths(2, 3, block(jump(1), copyOf(0, 2)), block(jump(1), copyOf(0, 1), copyOf(0, 2)))
	wantClean(t, "all of it set twice", true, g)
	g.Blocks[1].Term = back(0)
	wantClean(t, "all of it set twice, in a row", false, g)
}

func TestBlocksThatAreNotReached(t *testing.T) {
	for what, g := range unreached() {
		wantClean(t, what, false, g)
		wantRefused(t, what, api.ErrShape, alone(g), 0)
	}
	wantClean(t, "all reached", true, truths(1, 1, block(branch(0, 1, 2)), block(back(0)), block(trap(1))))
}

func TestBranchesWithBothToAlike(t *testing.T) {
	for _, show := range [][]api.Ins{nil, {show(0)}} {
		wantClean(t, "the entry's", false, truths(1, 1, block(branch(0, 1, 1), show...), block(back(0))))
		wantClean(t, "the entry's, where others lead, too", false, truths(1, 1, block(branch(0, 1, 1), show...), block(jump(1))))
		wantClean(t, "the entry's, with a phi", false, truths(1, 2, block(branch(0, 1, 1), show...), block(back(1), phi(1, 0))))
		wantClean(t, "another one's", false, truths(1, 1, block(branch(0, 1, 2)), block(branch(0, 3, 3), show...), block(trap(1)), block(back(0))))
		wantClean(t, "another one's, to itself", false, truths(1, 1, block(branch(0, 1, 2)), block(branch(0, 1, 1), show...), block(trap(1))))
		wantClean(t, "the last one's", false, truths(1, 1, block(branch(0, 1, 2)), block(trap(1)), block(branch(0, 1, 1), show...)))
		wantClean(t, "none", true, truths(1, 1, block(branch(0, 1, 2)), block(branch(0, 1, 2), show...), block(trap(1))))
	}
	// Ends of other kinds have no To: both are 0.
	wantClean(t, "a return", true, truths(1, 1, block(back(0))))
	wantClean(t, "a trap", true, truths(1, 1, block(trap(3))))
}

// A block that has just one block ahead: jumped to by it, or branched to, or it is that block itself.
func TestOneBlockAhead(t *testing.T) {
	for _, x := range [][]api.Ins{nil, {show(0)}, {not(1, 0), show(1)}} {
		for _, y := range [][]api.Ins{nil, {show(0)}, {phi(2, 0)}} {
			for _, end := range []api.Term{back(0), trap(1), branch(0, 2, 3)} {
				g := truths(1, 3, block(jump(1), x...), block(end, y...))
				if end.Kind == api.TermBranch {
					g.Blocks = append(g.Blocks, block(back(0)), block(trap(2)))
				}
				wantClean(t, "the entry jumps there", false, g)
			}
			g := truths(1, 3, block(branch(0, 1, 2), x...), block(back(0), y...), block(trap(1), y...))
			if len(y) > 0 && y[0].Kind == api.InsPhi {
				g.Blocks[2].Ins = nil
			}
			wantClean(t, "the entry branches there", true, g)
			g = truths(1, 3, block(branch(0, 1, 2)), block(jump(3), append(slices.Clone(x), show(0))...), block(trap(1)), block(back(0), y...))
			wantClean(t, "another one jumps there", false, g)
			g.Blocks[1].Term = branch(0, 3, 2)
			wantClean(t, "another one branches there", true, g)
			g.Blocks[1].Term = branch(0, 3, 1)
			wantClean(t, "another one branches there, and to itself", true, g)
			g.Blocks[1].Term, g.Blocks[3].Term = jump(3), jump(1)
			wantClean(t, "it jumps back to that one", false, g)
			g.Blocks[2].Term = jump(3)
			if len(y) > 0 {
				if y[0].Kind == api.InsPhi {
					g.Blocks[3].Ins = []api.Ins{phi(2, 0, 0)}
				}
				g.Blocks[2].Ins = []api.Ins{show(0)}
				wantClean(t, "two jump there", true, g)
			}
		}
	}
	wantClean(t, "the block itself is ahead, and the entry", true, truths(1, 1, block(jump(1)), block(jump(1))))
	wantClean(t, "the block itself alone is ahead", false, truths(1, 1, block(back(0)), block(jump(1))))
	wantClean(t, "the block itself alone is ahead, by a branch", false, truths(1, 1, block(branch(0, 2, 3)), block(branch(0, 1, 2)), block(back(0)), block(trap(1))))
}

// The entry may be empty, and jump to another block, if others lead there, too.
func TestTheEntry(t *testing.T) {
	for _, x := range [][]api.Ins{nil, {show(0)}} {
		wantClean(t, "to a loop", true, truths(1, 2, block(jump(1), x...), block(branch(0, 1, 2), show(0)), block(back(0))))
		wantClean(t, "to a loop with a phi", true, truths(1, 2, block(jump(1), x...), block(branch(1, 1, 2), phi(1, 0, 1)), block(back(0))))
		wantClean(t, "to a loop by another block", true, truths(1, 2, block(jump(1), x...), block(branch(0, 2, 3)), block(jump(1), show(0)), block(back(0))))
		wantClean(t, "to a loop by an empty block", false, truths(1, 2, block(jump(1), x...), block(branch(0, 2, 3)), block(jump(1)), block(back(0))))
		wantClean(t, "to a circle", false, truths(1, 2, block(jump(1), x...), block(jump(2), show(0)), block(jump(1), show(0))))
		wantClean(t, "to one block", false, truths(1, 2, block(jump(1), x...), block(back(0))))
		wantClean(t, "alone", true, truths(1, 2, block(back(0), x...)))
		wantClean(t, "a trap alone", true, truths(1, 2, block(trap(2), x...)))
	}
}

// The block 1 is empty, or has something in it; the entry branches to it, and elsewhere.
func TestEmptyBlocks(t *testing.T) {
	for i, x := range [][]api.Ins{nil, {show(0)}} {
		full := i == 1
		beside := func(end api.Term, to ...api.Ins) api.Graph {
			return truths(1, 2, block(branch(0, 1, 2)), block(jump(3), x...), block(end, show(0)), block(back(0), to...))
		}
		wantClean(t, "to a block without phis", full, beside(jump(3)))
		wantClean(t, "to a block without phis, but with something else", full, beside(jump(3), show(0), not(1, 0)))
		wantClean(t, "to a block with phis", full, beside(jump(3), phi(1, 0, 0)))
		wantClean(t, "to a block with phis, where two branch", full, beside(branch(0, 2, 3), phi(1, 0, 0)))
		wantClean(t, "to a block with phis, where another one is ahead of both", true, beside(branch(0, 1, 3), phi(1, 0, 0)))
		wantClean(t, "to a block with phis, where another one is ahead of both, the other way round", true, beside(branch(0, 3, 1), phi(1, 0, 0)))
		wantClean(t, "to a block without phis, where another one is ahead of both", full, beside(branch(0, 1, 3)))

		round := func(to ...api.Ins) api.Graph {
			return truths(1, 2, block(branch(0, 1, 2)), block(jump(2), x...), block(back(0), to...))
		}
		wantClean(t, "the entry is ahead of both, without phis", full, round())
		wantClean(t, "the entry is ahead of both, something else", full, round(show(0)))
		wantClean(t, "the entry is ahead of both, a phi", true, round(phi(1, 0, 0)))
		g := round(phi(1, 0, 0))
		g.Blocks[0].Term.To = [2]int{2, 1}
		wantClean(t, "the entry is ahead of both, a phi, the other way round", true, g)

		loop := func(to ...api.Ins) api.Graph {
			return truths(1, 2, block(jump(1)), block(branch(0, 2, 3), to...), block(jump(1), x...), block(back(0)))
		}
		wantClean(t, "back to a loop's head", full, loop())
		wantClean(t, "back to a loop's head with a phi", full, loop(phi(1, 0, 1)))
		g = loop(phi(1, 0, 1, 1))
		g.Blocks[1].Term = branch(0, 1, 2)
		g.Blocks = g.Blocks[:3]
		wantClean(t, "back to a loop's head with a phi, that leads to itself, too", true, g)
		g.Blocks[1].Ins = nil
		wantClean(t, "back to a loop's head that leads to itself, too", full, g)

		wantClean(t, "to itself", true, truths(1, 1, block(branch(0, 1, 2)), block(jump(1), x...), block(back(0))))
		wantClean(t, "a branch", true, truths(1, 1, block(branch(0, 1, 2)), block(branch(0, 2, 3), x...), block(back(0)), block(trap(1))))
		wantClean(t, "a return", true, truths(1, 1, block(branch(0, 1, 2)), block(back(0), x...), block(back(0))))
		wantClean(t, "a trap", true, truths(1, 1, block(branch(0, 1, 2)), block(trap(1), x...), block(trap(1))))
	}
}

// One block that stands ahead of both is enough, among many that do not; none is not.
func TestAheadOfBothAmongMany(t *testing.T) {
	m := maker{odds: firstOdd}
	for n := 2; n < 12; n++ {
		for _, both := range []bool{false, true} {
			// The blocks of a row lead on, or to an empty one, or to the one with a phi that this jumps to; only the last one may lead to both.
			empty, last := n, n+1
			var blocks []api.Block
			for b := range n - 1 {
				blocks = append(blocks, block(branch(0, b+1, pick(&m.odds, empty, last)), show(0)))
			}
			end := branch(0, empty, n+2)
			if both {
				end.To[1] = last
			}
			blocks = append(blocks, block(end, show(0)), block(jump(last)), block(back(1)))
			if !both {
				blocks = append(blocks, block(trap(1)))
			}
			g := truths(1, 2, blocks...)
			g.Blocks[last].Ins = []api.Ins{phi(1, slices.Repeat(row(0), len(blocksAhead(g, last)))...)}
			for range 5 {
				h := m.renumbered(g)
				wantClean(t, "a row", both, h)
				if both {
					wantStay(t, "a row", h)
				}
			}
		}
	}
}

// Circles of empty blocks, that are reached: all but one are too many.
func TestCirclesOfEmptyBlocks(t *testing.T) {
	for n := 1; n < 7; n++ {
		for into := 1; into <= n; into++ {
			g := truths(1, 1, block(jump(into)))
			for b := range n {
				g.Blocks = append(g.Blocks, block(jump(1+(b+1)%n)))
			}
			wantClean(t, "a circle", n == 1, g)
			wantBecome(t, "a circle", g, block(jump(1)), block(jump(1)))
			g.Blocks[0] = block(branch(0, into, n+1), show(0))
			g.Blocks = append(g.Blocks, block(back(0)))
			wantClean(t, "a circle, beside something else", n == 1, g)
			wantBecome(t, "a circle, beside something else", g, block(branch(0, 1, 2), show(0)), block(jump(1)), block(back(0)))
		}
	}
}
