package live_test

import (
	"testing"

	"smithy/api"
)

// fan is a graph whose entry leads by 1 to 2, 3 and 4, which all lead to 5, the last one, with these instructions.
func fan(ins ...api.Ins) api.Graph {
	return truths(9, block(branch(8, 1, 4)), block(branch(8, 2, 3)), block(jump(5)), block(jump(5)), block(jump(5)), block(trap(1), ins...))
}

// fanned is what is live about the variable 8, which the fan's branches ask, and what is asked at the ends of 2, 3 and 4.
func fanned(two, three, four []int) (into, out [][]int) {
	one := with(two, three...)
	return rows(with(one, append(four, 8)...), with(one, 8), two, three, four, nil), rows(with(one, append(four, 8)...), one, two, three, four, nil)
}

func TestArgumentsAreAskedAtTheEndsAhead(t *testing.T) {
	into, out := fanned(row(1), row(2), row(3))
	wantLive(t, "three arguments", fan(phi(0, 1, 2, 3)), into, out)
	into, out = fanned(row(3), row(2), row(1))
	wantLive(t, "in another order", fan(phi(0, 3, 2, 1)), into, out)
	into, out = fanned(row(1, 4), row(2, 4), row(3, 5))
	wantLive(t, "two phis", fan(phi(0, 1, 2, 3), phi(6, 4, 4, 5)), into, out)
	into, out = fanned(row(0), row(0), row(7))
	wantLive(t, "its own variable", fan(phi(0, 0, 0, 7)), into, out)
	into, out = fanned(row(0, 1), row(0, 1), row(0, 1))
	wantLive(t, "one another's variables", fan(phi(0, 1, 1, 1), phi(1, 0, 0, 0)), into, out)
	into, out = fanned(row(2), row(2), row(2))
	wantLive(t, "what one phi sets is asked behind it, what another one asks is not", fan(phi(0, 2, 2, 2), show(0), copyOf(0, 0)), into, out)
}

// What a phi sets is set at the head of its block, ahead of all else.
func TestPhisSetAtTheHead(t *testing.T) {
	into, out := fanned(row(1), row(2), row(3))
	wantLive(t, "asked in the block", fan(phi(0, 1, 2, 3), show(0)), into, out)
	g := fan(phi(0, 1, 2, 3), copyOf(0, 0))
	g.Blocks[5].Term = back(0)
	wantLive(t, "asked at its end", g, into, out)
	into, out = fanned(row(1, 7), row(2, 7), row(3, 7))
	into[5] = row(7)
	wantLive(t, "what no phi sets", fan(phi(0, 1, 2, 3), show(7), show(0)), into, out)
	// A phi's variable is set for the other phis' blocks, too, not for their arguments.
	into, out = fanned(row(0, 1), row(0, 2), row(0, 3))
	wantLive(t, "a second phi asks what the first one sets", fan(phi(0, 1, 2, 3), phi(4, 0, 0, 0), show(0), show(4)), into, out)
	wantLive(t, "the other way round", fan(phi(4, 0, 0, 0), phi(0, 1, 2, 3), show(4), show(0)), into, out)
}

// A block ahead that sets an argument has it live out of it, and not into it; but where it is asked first.
func TestBlocksAheadThatSetArguments(t *testing.T) {
	g := fan(phi(0, 1, 2, 3))
	g.Blocks[2].Ins = []api.Ins{constant(1)}
	g.Blocks[3].Ins = []api.Ins{show(2), constant(2)}
	g.Blocks[4].Ins = []api.Ins{constant(2), copyOf(4, 3), constant(1)}
	wantLive(t, "settings ahead", g, rows(row(2, 3, 8), row(2, 8), nil, row(2), row(3), nil), rows(row(2, 3, 8), row(2), row(1), row(2), row(3), nil))
	g.Blocks[4].Ins = []api.Ins{constant(3)}
	g.Blocks[0].Ins = []api.Ins{constant(2)}
	wantLive(t, "settings further ahead", g, rows(row(8), row(2, 8), nil, row(2), nil, nil), rows(row(2, 8), row(2), row(1), row(2), row(3), nil))
	// A phi of the block ahead sets it, too.
	chain := truths(3, block(jump(1)), block(jump(2), phi(1, 0)), block(back(2), phi(2, 1)))
	wantLive(t, "a phi behind a phi", chain, rows(row(0), nil, nil), rows(row(0), row(1), nil))
}

func TestPhisOfBlocksThatLeadToThemselves(t *testing.T) {
	g := truths(4, block(jump(1)), block(jump(1), phi(1, 0, 1)))
	wantLive(t, "its own variable round and round", g, rows(row(0), nil), rows(row(0), row(1)))
	g = truths(4, block(jump(1)), block(jump(1), phi(1, 0, 2)))
	wantLive(t, "another one's", g, rows(row(0, 2), row(2)), rows(row(0, 2), row(2)))
	g = truths(4, block(jump(1)), block(branch(1, 1, 1), phi(1, 0, 2), constant(2)))
	wantLive(t, "one that is set", g, rows(row(0), nil), rows(row(0), row(2)))
	g = truths(4, block(jump(1)), block(branch(3, 1, 2), phi(1, 0, 2), phi(2, 1, 1)), block(back(1)))
	wantLive(t, "two that change places", g, rows(row(0, 1, 3), row(3), row(1)), rows(row(0, 1, 3), row(1, 2, 3), nil))
	g = truths(4, block(trap(1)), block(jump(1), phi(1, 2)))
	wantLive(t, "not reached, and led to by itself alone", g, rows(nil, row(2)), rows(nil, row(2)))
}

// One block that is next to another one by both To of a branch is ahead of it once.
func TestBothEndsOfABranch(t *testing.T) {
	g := truths(4, block(branch(0, 1, 1)), block(back(1), phi(1, 2)))
	wantLive(t, "one argument", g, rows(row(0, 2), nil), rows(row(2), nil))
	g.Blocks[1].Ins[0] = phi(1, 2, 2)
	wantRefused(t, "two arguments", g)
	g = truths(4, block(jump(2)), block(branch(0, 3, 3)), block(jump(3)), block(back(1), phi(1, 2, 3)))
	wantLive(t, "beside another block", g, rows(row(3), row(0, 2), row(3), nil), rows(row(3), row(2), row(3), nil))
}

// Blocks ahead are so in the order of their numbers, however they are reached; those that are not reached count.
func TestOrderOfBlocksAhead(t *testing.T) {
	g := truths(9, block(jump(5)), block(back(0), phi(0, 2, 3, 4, 5)), block(jump(1)), block(jump(1)), block(branch(6, 3, 1)), block(branch(7, 4, 1)))
	wantLive(t, "led to from behind", g,
		rows(row(3, 4, 5, 6, 7), nil, row(2), row(3), row(3, 4, 6), row(3, 4, 5, 6, 7)),
		rows(row(3, 4, 5, 6, 7), nil, row(2), row(3), row(3, 4), row(3, 4, 5, 6)))
	g = truths(3, block(trap(1)), block(back(0), phi(0)))
	wantLive(t, "a phi of nothing, not reached", g, rows(nil, nil), rows(nil, nil))
	g = truths(3, block(trap(1)), block(back(0), phi(1), copyOf(2, 1)))
	wantLive(t, "two not reached", g, rows(nil, row(0)), rows(nil, nil))
}

// A phi whose variable nothing asks asks its arguments still.
func TestPhisThatNothingAsks(t *testing.T) {
	wantLive(t, "nothing asks it", truths(3, block(jump(1)), block(trap(1), phi(0, 1))), rows(row(1), nil), rows(row(1), nil))
	wantLive(t, "set anew behind it", truths(3, block(jump(1)), block(back(0), phi(0, 1), constant(0))), rows(row(1), nil), rows(row(1), nil))
}
