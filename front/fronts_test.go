package front_test

import "testing"

func TestOneNode(t *testing.T) {
	wantFronts(t, "no edges", net(nil), nil)
	wantFronts(t, "an empty list of edges", net(to()), nil)
	wantFronts(t, "an edge to itself", net(to(0)), to(0))
	wantFronts(t, "the same edge again", net(to(0, 0, 0)), to(0))
}

func TestRowsAndForks(t *testing.T) {
	wantFronts(t, "a row", net(to(1), to(2), to(3), nil), nil, nil, nil, nil)
	wantFronts(t, "a fork", net(to(1, 2), nil, nil), nil, nil, nil)
	wantFronts(t, "a fork that joins", net(to(1, 2), to(3), to(3), nil), nil, to(3), to(3), nil)
	wantFronts(t, "a way round", net(to(1, 2), to(2), nil), nil, to(2), nil)
	wantFronts(t, "a row into a join", net(to(1, 4), to(2), to(3), to(4), nil), nil, to(4), to(4), to(4), nil)
	wantFronts(t, "forks in a fork", net(to(1, 2), to(3, 4), to(6), to(5), to(5), to(6), nil), nil, to(6), to(6), to(5), to(5), to(6), nil)
	wantFronts(t, "a jump into another arm", net(to(1, 2), to(3), to(3, 4), to(5), to(5), nil), nil, to(3), to(3, 5), to(5), to(5), nil)
	wantFronts(t, "a join that has another number", net(to(3, 2), nil, to(1), to(1)), nil, nil, to(1), to(1))
	wantFronts(t, "joins met from the last one on", net(to(4, 3, 2), nil, to(1), to(2, 1), to(3, 2, 1)), nil, nil, to(1), to(1, 2), to(1, 2, 3))
}

// Twice named is named once.
func TestEdgesTwice(t *testing.T) {
	wantFronts(t, "a row", net(to(1, 1), to(2, 2, 2), nil), nil, nil, nil)
	wantFronts(t, "a fork that joins", net(to(1, 2, 1, 2), to(3, 3), to(3, 3, 3), nil), nil, to(3), to(3), nil)
	wantFronts(t, "a loop", net(to(1, 1), to(1, 2, 1, 2), to(1, 0, 1, 0)), to(0), to(0, 1), to(0, 1))
	wantFronts(t, "the chapter's", net(to(2, 1, 1, 2), to(3, 3), to(3, 3, 3), to(4, 1, 1), nil, to(3, 3)), nil, to(3), to(3), to(1), nil, nil)
	wantJoins(t, "the chapter's", net(to(2, 1, 1, 2), to(3, 3), to(3, 3, 3), to(4, 1, 1), nil, to(3, 3)), to(2), 1, 3)
}

// Nodes that are not reached have no front, and are in none, even where they lead to reached ones.
func TestNotReached(t *testing.T) {
	wantFronts(t, "alone", net(nil, nil, nil), nil, nil, nil)
	wantFronts(t, "to the entry", net(nil, to(0), to(1)), nil, nil, nil)
	wantFronts(t, "to themselves", net(to(0), to(1), to(3), to(2)), to(0), nil, nil, nil)
	wantFronts(t, "joining", net(nil, to(3), to(3), to(1, 2)), nil, nil, nil, nil)
	wantFronts(t, "into a row", net(to(1), to(2), nil, to(2), to(1, 3)), nil, nil, nil, nil, nil)
	wantFronts(t, "into a join", net(to(1, 2), to(3), to(3), nil, to(3, 1), to(4)), nil, to(3), to(3), nil, nil, nil)
	wantFronts(t, "into a loop", net(to(1), to(2), to(1, 3), nil, to(2), to(3, 4, 5)), nil, to(1), to(1), nil, nil, nil)
}

// A node is in its own front, if an edge leads back to it from what it stands over.
func TestLoops(t *testing.T) {
	wantFronts(t, "an edge to itself", net(to(1), to(1, 2), nil), nil, to(1), nil)
	wantFronts(t, "a loop", net(to(1), to(2, 3), to(1), nil), nil, to(1), to(1), nil)
	wantFronts(t, "a loop in a loop", net(to(1), to(2, 6), to(3, 5), to(4), to(2), to(1), nil), nil, to(1), to(1, 2), to(2), to(2), to(1), nil)
	wantFronts(t, "a loop in a loop with one end", net(to(1), to(2), to(3), to(2, 1, 4), nil), nil, to(1), to(1, 2), to(1, 2), nil)
	wantFronts(t, "two loops with one head", net(to(1), to(2, 3, 4), to(1), to(1), nil), nil, to(1), to(1), to(1), nil)
	wantFronts(t, "a loop that is left in the middle", net(to(1), to(2), to(3, 4), to(1), nil), nil, to(1), to(1), to(1), nil)
	wantFronts(t, "a fork in a loop", net(to(1), to(2, 3, 5), to(4), to(4), to(1), nil), nil, to(1), to(4), to(4), to(1), nil)
	wantFronts(t, "a loop in an arm", net(to(1, 3), to(2), to(1, 3), nil), nil, to(1, 3), to(1, 3), nil)
}

// Nobody stands strictly over the entry: who has an edge to it below has it in his front, and so has the entry.
func TestBackToTheEntry(t *testing.T) {
	wantFronts(t, "from the end", net(to(1), to(2), to(0)), to(0), to(0), to(0))
	wantFronts(t, "from the middle", net(to(1), to(2, 0), nil), to(0), to(0), nil)
	wantFronts(t, "from an arm", net(to(1, 2), to(3), to(3, 0), nil), to(0), to(3), to(0, 3), nil)
	wantFronts(t, "from each", net(to(1, 0), to(0, 2), to(0, 1)), to(0), to(0, 1), to(0, 1))
	wantFronts(t, "from what is not reached", net(to(1), nil, to(0)), nil, nil, nil)
}

func TestLoopsWithTwoWaysIn(t *testing.T) {
	wantFronts(t, "of two", net(to(1, 2), to(2), to(1)), nil, to(2), to(1))
	wantFronts(t, "of two, and out", net(to(1, 2), to(2, 3), to(1, 4), nil, nil), nil, to(2), to(1), nil, nil)
	wantFronts(t, "of two, and out to one", net(to(1, 2), to(2, 3), to(1, 3), nil), nil, to(2, 3), to(1, 3), nil)
	wantFronts(t, "of three", net(to(1, 3), to(2), to(3), to(1)), nil, to(3), to(3), to(1))
	wantFronts(t, "below a row", net(to(1), to(2), to(3, 4), to(4), to(3)), nil, nil, nil, to(4), to(3))
	wantFronts(t, "both ways along", net(to(1, 4), to(2), to(1, 3), to(2, 4), to(3)), nil, to(2), to(1, 3), to(2, 4), to(3))
	wantFronts(t, "in a loop", net(to(1), to(2, 3), to(3), to(2, 1, 4), nil), nil, to(1), to(3), to(1, 2), nil)
}

// Each front rises, and names no node twice.
func TestFrontsRise(t *testing.T) {
	o := firstOdd
	for range 4000 {
		next := o.anyNet(16)
		told := fronts(t, next)
		for a, row := range told {
			if !rises(row) {
				t.Fatalf("Fronts(%v) tells %v: %d's front does not rise", next, told, a)
			}
		}
	}
}
