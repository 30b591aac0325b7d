package dom_test

import "testing"

// The chapter's examples, by their numbers.
func TestExamples(t *testing.T) {
	// 1
	wantTree(t, "the net", example(), -1, 0, 0, 0, -1)
	wantNone(t, "none", nil)
	wantNone(t, "0: 1", net(to(1)))
	wantNone(t, "0: -1", net(to(-1)))
	wantTree(t, "one node", net(nil), -1)
	// 2
	that := []int{-1, 0, 0, 0, -1}
	wantOver(t, true, that, 0, 3)
	wantOver(t, true, that, 3, 3)
	wantOver(t, true, that, 4, 4)
	wantOver(t, false, that, 1, 3)
	wantOver(t, false, that, 0, 4)
	wantOver(t, false, that, 0, 5)
	wantOver(t, true, []int{1, 0}, 1, 0)
	wantOver(t, false, []int{1, 0}, 5, 0)
	// 3
	wantUnder(t, that, to(1, 2, 3), nil, nil, nil, nil)
	wantUnder(t, []int{7, -1}, nil, nil)
}
