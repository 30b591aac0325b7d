package graph_test

import (
	"testing"

	"smithy/api"
	"smithy/graph"
)

// The chapter's examples, by their numbers.
func TestExamples(t *testing.T) {
	g := example(0, 2)
	// 1
	wantCheck(t, "two arguments", api.ErrShape, 0, g)
	wantCheck(t, "three arguments", api.OK, 0, example(0, 2, 2))
	wantCheck(t, "none", api.OK, 0)
	wantCheck(t, "no blocks", api.ErrShape, 0, api.Graph{Name: "g", Result: api.I64})
	wantCheck(t, "65 graphs", api.ErrLong, 0, make([]api.Graph, 65)...)
	// 2
	wantList(t, "Next of 0", graph.Next(g.Blocks[0]), 1, 2)
	wantList(t, "Next of 3", graph.Next(g.Blocks[3]))
	if ahead := graph.Ahead(g); !sameLists(ahead, [][]int{nil, {0}, {0}, {1, 2, 4}, nil}) {
		t.Errorf("Ahead: %v", ahead)
	}
	wantList(t, "Order", graph.Order(g), 0, 1, 2, 3)
	if n := graph.Count(g); n != 9 {
		t.Errorf("Count: %d; want 9", n)
	}
	// 3
	want := example(0, 2)
	want.Blocks = want.Blocks[:4]
	if got := graph.Trim(example(0, 2, 2)); !same(got, want) {
		t.Errorf("Trim: %v; want %v", got, want)
	}
	wantStands(t, nil, g, api.Bool, op(api.OpLt, 1, 0, 2))
	wantNotStands(t, nil, g, op(api.OpAdd, 1, 0, 2))
	wantStands(t, nil, g, api.NoType, show(1))
}
