package tidy_test

import (
	"testing"

	"smithy/api"
)

// {jump 1}, {print 0; jump 2}, {return 0}: not clean; {print 0; return 0} is what it comes to.
func TestExampleOne(t *testing.T) {
	for _, typ := range types {
		g := graphOf(typ, 1, 1, block(jump(1)), block(jump(2), show(0)), block(back(0)))
		wantClean(t, "a row", false, g)
		wantBecome(t, "a row", g, block(back(0), show(0)))
	}
}

// {branch 0 to 1, 1}, {return 0}: the branch becomes a jump, both blocks one.
func TestExampleTwo(t *testing.T) {
	g := truths(1, 1, block(branch(0, 1, 1)), block(back(0)))
	wantClean(t, "a branch one way", false, g)
	wantBecome(t, "a branch one way", g, block(back(0)))
}

// {branch 0 to 1, 2}, {jump 2}, {phi 1 of 0, 0; return 1}: clean: the block 1 is empty, but 0 is ahead of both 1 and 2, and 2 has a phi. Without the phi (return 0): the block 1 goes, the branch with it: {return 0}.
func TestExampleThree(t *testing.T) {
	g := truths(1, 2, block(branch(0, 1, 2)), block(jump(2)), block(back(1), phi(1, 0, 0)))
	wantStay(t, "a way round", g)
	g = truths(1, 1, block(branch(0, 1, 2)), block(jump(2)), block(back(0)))
	wantClean(t, "a way round to no phi", false, g)
	wantBecome(t, "a way round to no phi", g, block(back(0)))
}

// {jump 1}, {jump 1}: clean, but for the entry's jump: 1 has two blocks ahead, the entry and itself; so it stays as it is.
func TestExampleFour(t *testing.T) {
	g := api.Graph{Result: api.Bool, Blocks: []api.Block{block(jump(1)), block(jump(1))}}
	wantStay(t, "a circle of one", g)
}
