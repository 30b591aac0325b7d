package gvn_test

import (
	"testing"

	"smithy/api"
)

// {op 2 = 0 + 1; op 3 = 1 + 0; copy 4 = 3; print 4; return 2}: not clean; as {op 2 = 0 + 1; print 2; return 2} it is. With op 3 = 1 - 0 in the second one's place, and without the copy, it is clean.
func TestExampleOne(t *testing.T) {
	sum, turned := op(api.OpAdd, 2, 0, 1), op(api.OpAdd, 3, 1, 0)
	g := graphOf(api.I64, 2, 5, block(back(2), sum, turned, copyOf(4, 3), show(4)))
	wantClean(t, "a sum, turned, copied", false, g)
	less := []api.Block{block(back(2), sum, show(2))}
	wantClean(t, "the sum alone", true, withBlocks(g, less...))
	wantBecome(t, "a sum, turned, copied", g, less...)
	other := withBlocks(g, block(back(2), sum, op(api.OpSub, 3, 1, 0), show(3)))
	wantClean(t, "a sum and a difference", true, other)
	wantBecome(t, "a sum and a difference", other, other.Blocks...)
}

// A constant 5 of I64 in the entry, and one in a block behind it: not clean; in two blocks of which none stands over the other one: clean. A constant 5 of U8 beside one of I64: clean.
func TestExampleTwo(t *testing.T) {
	vars := []api.Type{api.Bool, api.I64, api.I64, api.U8}
	over := typed(1, vars, block(jump(1), number(1, 5)), block(back(0), number(2, 5), show(2)))
	wantClean(t, "in the entry, and behind it", false, over)
	wantBecome(t, "in the entry, and behind it", over, block(jump(1), number(1, 5)), block(back(0), show(1)))
	beside := typed(1, vars, block(branch(0, 1, 2)), block(back(0), number(1, 5), show(1)), block(back(0), number(2, 5), show(2)))
	wantClean(t, "in two blocks beside each other", true, beside)
	wantBecome(t, "in two blocks beside each other", beside, beside.Blocks...)
	both := typed(1, vars, block(back(0), number(1, 5), number(3, 5), show(1), show(3)))
	wantClean(t, "of two types", true, both)
	wantBecome(t, "of two types", both, both.Blocks...)
}

// Two loads of one element: not looked at (what is stored may lie between).
func TestExampleThree(t *testing.T) {
	for _, between := range []api.Ins{show(1), store(0, 1, 1), store(0, 1, 0), wipe(0), call(0, 4, 0, 1)} {
		g := graphOf(api.I64, 2, 5, block(back(3), load(2, 0, 0), between, load(3, 0, 0), show(2)))
		g.Arrays = []api.Array{{Type: api.I64, Size: 2}}
		wantClean(t, "two loads", true, g)
		wantBecome(t, "two loads", g, g.Blocks...)
	}
}
