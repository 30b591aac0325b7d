package dom_test

import "testing"

func TestOneNode(t *testing.T) {
	wantTree(t, "no edges", net(nil), -1)
	wantTree(t, "an empty list of edges", net(to()), -1)
	wantTree(t, "an edge to itself", net(to(0)), -1)
	wantTree(t, "the same edge again", net(to(0, 0, 0)), -1)
}

func TestRowsAndForks(t *testing.T) {
	wantTree(t, "a row", net(to(1), to(2), to(3), nil), -1, 0, 1, 2)
	wantTree(t, "a row in another order", net(to(3), nil, to(1), to(2)), -1, 2, 3, 0)
	wantTree(t, "a fork", net(to(1, 2), nil, nil), -1, 0, 0)
	wantTree(t, "a fork that joins", net(to(1, 2), to(3), to(3), nil), -1, 0, 0, 0)
	wantTree(t, "a way round", net(to(1, 2), to(2), nil), -1, 0, 0)
	wantTree(t, "forks in a fork", net(to(1, 2), to(3, 4), to(6), to(5), to(5), to(6), nil), -1, 0, 0, 1, 1, 1, 0)
	wantTree(t, "a jump into another arm", net(to(1, 2), to(3), to(3, 4), to(5), to(5), nil), -1, 0, 0, 0, 2, 0)
	wantTree(t, "a join low in a row", net(to(1), to(2, 3), to(4), to(4), to(5), nil), -1, 0, 1, 1, 1, 4)
}

// Twice named is named once.
func TestEdgesTwice(t *testing.T) {
	wantTree(t, "a row", net(to(1, 1), to(2, 2, 2), nil), -1, 0, 1)
	wantTree(t, "a fork that joins", net(to(1, 2, 1, 2, 0), to(3, 3), to(3, 3, 2), to(3)), -1, 0, 0, 0)
	wantTree(t, "the chapter's", net(to(2, 1, 1, 2), to(3, 3), to(3, 3, 3), to(1, 1), to(3, 4)), -1, 0, 0, 0, -1)
}

// Nodes that are not reached stand over none, even where they lead to reached ones.
func TestNotReached(t *testing.T) {
	wantTree(t, "alone", net(nil, nil, nil), -1, -1, -1)
	wantTree(t, "to the entry", net(nil, to(0), to(1)), -1, -1, -1)
	wantTree(t, "to themselves", net(to(0), to(1), to(3), to(2)), -1, -1, -1, -1)
	wantTree(t, "into a row", net(to(1), to(2), nil, to(2), to(1, 3)), -1, 0, 1, -1, -1)
	wantTree(t, "into a row, from ahead of it", net(to(4), to(5), to(1, 5), to(2, 4), to(5), nil), -1, -1, -1, -1, 0, 4)
	wantTree(t, "into a loop", net(to(1), to(2), to(1, 3), nil, to(2), to(3, 4, 5)), -1, 0, 1, 2, -1, -1)
}

func TestLoops(t *testing.T) {
	wantTree(t, "an edge to itself", net(to(1), to(1, 2), nil), -1, 0, 1)
	wantTree(t, "a loop", net(to(1), to(2, 3), to(1), nil), -1, 0, 1, 1)
	wantTree(t, "a loop in a loop", net(to(1), to(2, 6), to(3, 5), to(4), to(2), to(1), nil), -1, 0, 1, 2, 3, 2, 1)
	wantTree(t, "two loops with one head", net(to(1), to(2, 3, 4), to(1), to(1), nil), -1, 0, 1, 1, 1)
	wantTree(t, "a loop that is left in the middle", net(to(1), to(2), to(3, 4), to(1), nil), -1, 0, 1, 2, 2)
	wantTree(t, "a fork in a loop", net(to(1), to(2, 3, 5), to(4), to(4), to(1), nil), -1, 0, 1, 1, 1, 1)
	wantTree(t, "back to the entry", net(to(1), to(2), to(0, 3), to(0)), -1, 0, 1, 2)
	wantTree(t, "back to the entry from each", net(to(1, 0), to(0, 2), to(0, 1)), -1, 0, 1)
}

func TestLoopsWithTwoWaysIn(t *testing.T) {
	wantTree(t, "of two", net(to(1, 2), to(2), to(1)), -1, 0, 0)
	wantTree(t, "of two, and out", net(to(1, 2), to(2, 3), to(1, 4), nil, nil), -1, 0, 0, 1, 2)
	wantTree(t, "of two, and out to one", net(to(1, 2), to(2, 3), to(1, 3), nil), -1, 0, 0, 0)
	wantTree(t, "of three", net(to(1, 3), to(2), to(3), to(1)), -1, 0, 1, 0)
	wantTree(t, "below a row", net(to(1), to(2), to(3, 4), to(4), to(3)), -1, 0, 1, 2, 2)
	wantTree(t, "both ways along", net(to(1, 4), to(2), to(1, 3), to(2, 4), to(3)), -1, 0, 0, 0, 0)
	wantTree(t, "in a loop", net(to(1), to(2, 3), to(3), to(2, 1, 4), nil), -1, 0, 1, 1, 3)
	wantTree(t, "one in the other", net(to(1, 2), to(3, 4), to(4), to(4, 1), to(3, 2, 5), nil), -1, 0, 0, 0, 0, 4)
}

// What a nearest one of another node must be taken from: whose own highest way in is not its nearest one.
func TestNearestOfAnother(t *testing.T) {
	// Lengauer's and Tarjan's own net: R, A to L.
	wantTree(t, "thirteen",
		net(to(1, 2, 3), to(4), to(1, 4, 5), to(6, 7), to(12), to(8), to(9), to(9, 10), to(5, 11), to(11), to(9), to(9, 0), to(8)),
		-1, 0, 0, 0, 0, 0, 3, 3, 0, 0, 7, 0, 4)
	wantTree(t, "a row with ways round", net(to(1, 4), to(2), to(3), to(4), to(5, 3), to(2, 6), nil), -1, 0, 0, 0, 0, 4, 5)
}
