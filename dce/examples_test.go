package dce_test

import (
	"testing"
)

// {const 1 = 5; op 2 = 1 + 1; op 3 = 0 + 0; print 3; return 0}: 0 and 3 are needed; Apply leaves out the const and the first op.
func TestExampleOne(t *testing.T) {
	for _, params := range []int{0, 1, 4} {
		g := numbers(params, 4, block(back(0), number(1, 5), sum(2, 1, 1), sum(3, 0, 0), show(3)))
		wantNeeded(t, "two sums", g, 0, 3)
		wantBecome(t, "two sums", g, block(back(0), sum(3, 0, 0), show(3)))
	}
}

// {call 1 = f(0); load 2 = a[0]; store a[0] = 0; clear a; return 0}: the call stays, though 1 is not needed; the load goes.
func TestExampleTwo(t *testing.T) {
	g := numbers(1, 3, block(back(0), call(0, 1, 0), load(2, 0, 0), store(0, 0, 0), wipe(0)))
	wantNeeded(t, "a call and a load", g, 0)
	wantBecome(t, "a call and a load", g, block(back(0), call(0, 1, 0), store(0, 0, 0), wipe(0)))
}

// {phi 1 of 0, 1} in a loop, and nothing else that asks 1: it goes.
func TestExampleThree(t *testing.T) {
	g := truths(1, 2, block(jump(1)), block(branch(0, 1, 2), phi(1, 0, 1)), block(back(0)))
	wantNeeded(t, "a phi that asks itself", g, 0)
	wantBecome(t, "a phi that asks itself", g, block(jump(1)), block(branch(0, 1, 2)), block(back(0)))
}
