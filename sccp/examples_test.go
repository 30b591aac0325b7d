package sccp_test

import (
	"testing"

	"smithy/api"
)

// x = 2; y = x * 3; branch on y == 6: the other block is not reached, and what it sets is Unseen.
func TestExampleOne(t *testing.T) {
	const x, three, y, six, is, other = 0, 1, 2, 3, 4, 5
	g := graphOf(api.I64, 0, 6,
		block(branch(is, 1, 2), number(x, 2), number(three, 3), op(api.OpMul, y, x, three), number(six, 6), op(api.OpEq, is, y, six)),
		block(back(y)),
		block(back(other), op(api.OpAdd, other, x, y)),
	)
	g.Vars[is] = api.Bool
	wantFacts(t, "a branch that is known", g, factsOf("110", "10 00 00", known(2), known(3), known(6), known(6), known(1), unseen))
}

// A loop: i is a phi of a number and of what its body makes of it.
func TestExampleTwo(t *testing.T) {
	const p, first, one, i, j = 0, 1, 2, 3, 4
	for _, c := range []struct {
		what  string
		begin uint64
		body  api.Ins
		cell  api.Cell
	}{
		{"i + 1", 0, op(api.OpAdd, j, i, one), varying},
		{"i itself", 5, copyOf(j, i), known(5)},
		{"i * 1", 5, op(api.OpMul, j, i, one), known(5)},
	} {
		g := graphOf(api.I64, 0, 5,
			block(jump(1), number(first, c.begin), number(one, 1)),
			block(branch(p, 2, 3), phi(i, first, j)),
			block(jump(1), c.body),
			block(back(i)),
		)
		g.Params, g.Vars[p] = row(p), api.Bool
		wantFacts(t, c.what, g, factsOf("1111", "10 11 10 00", varying, known(c.begin), known(1), c.cell, c.cell))
	}
	own := truths(2, 3, block(jump(1)), block(branch(0, 1, 2), phi(2, 1, 2)), block(back(2)))
	wantCells(t, "a phi of a parameter and itself", own, varying, varying, varying)
	own = truths(1, 3, block(jump(1), number(1, 1)), block(branch(0, 1, 2), phi(2, 1, 2)), block(back(2)))
	wantCells(t, "a phi of 1 and itself", own, varying, known(1), known(1))
}

func TestExampleThree(t *testing.T) {
	wantMeet(t, known(3), known(3), known(3))
	wantMeet(t, known(3), known(4), varying)
	wantMeet(t, unseen, varying, varying)
}
