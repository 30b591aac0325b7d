package front_test

import "testing"

// The chapter's examples, by their numbers.
func TestExamples(t *testing.T) {
	// 1
	wantFronts(t, "the net", example(), nil, to(3), to(3), to(1), nil, nil)
	// 2
	wantJoins(t, "2", example(), to(2), 1, 3)
	wantJoins(t, "none", example(), nil)
	wantJoins(t, "4 5", example(), to(4, 5))
	wantNoArg(t, "6", example(), to(6))
	wantNoNet(t, "none", nil)
	// 3
	wantFronts(t, "0: 0", net(to(0)), to(0))
	wantFronts(t, "0: 1; 1: 1", net(to(1), to(1)), nil, to(1))
}

// The document's fifth example: what is set ahead of a fork and in one arm is joined behind the fork; what a loop counts is joined at its head.
func TestExamplesOfTheWhole(t *testing.T) {
	wantJoins(t, "set in an arm", net(to(1, 2), to(2), nil), to(0, 1), 2)
	wantJoins(t, "counted", net(to(1), to(2, 3), to(1), nil), to(0, 2), 1)
}
