package fold_test

import (
	"testing"

	"smithy/api"
)

// x = 2; y = x * 3; branch on y == 6 to A, else to B: x, y and the comparison are InsConst, the block jumps to A; B is gone.
func TestExampleOne(t *testing.T) {
	const x, three, y, six, is, other = 0, 1, 2, 3, 4, 5
	g := graphOf(api.I64, 0, 6,
		block(branch(is, 2, 1), number(x, 2), number(three, 3), op(api.OpMul, y, x, three), number(six, 6), op(api.OpEq, is, y, six)),
		block(back(other), op(api.OpAdd, other, x, y)),
		block(back(y), show(x)),
	)
	g.Vars[is] = api.Bool
	wantBecome(t, "a branch that is known", g,
		block(jump(1), number(x, 2), number(three, 3), number(y, 6), number(six, 6), number(is, 1)),
		block(back(y), show(x)),
	)
}

// A phi of 5 and itself: an InsConst 5, behind the phis that stay.
func TestExampleTwo(t *testing.T) {
	const n, five, zero, one, i, j, next, is = 0, 1, 2, 3, 4, 5, 6, 7
	g := graphOf(api.I64, 1, 8,
		block(jump(1), number(five, 5), number(zero, 0), number(one, 1)),
		block(branch(is, 2, 3), phi(i, five, i), phi(j, zero, next), show(i), op(api.OpLt, is, j, n)),
		block(jump(1), op(api.OpAdd, next, j, one)),
		block(back(i)),
	)
	g.Vars[is] = api.Bool
	wantBecome(t, "a phi of 5 and itself", g,
		block(jump(1), number(five, 5), number(zero, 0), number(one, 1)),
		block(branch(is, 2, 3), phi(j, zero, next), number(i, 5), show(i), op(api.OpLt, is, j, n)),
		block(jump(1), op(api.OpAdd, next, j, one)),
		block(back(i)),
	)
}

// Facts by which all is Varying, all reached, all edges there hold, too: nothing turns.
func TestExampleThree(t *testing.T) {
	m := maker{odds: firstOdd}
	for range 2000 {
		p, f := m.program()
		if g := wantKept(t, "facts that know nothing", p, f, highest(p[f])); !sameGraph(g, p[f]) {
			t.Fatalf("%v becomes %v", p[f], g)
		}
	}
}
