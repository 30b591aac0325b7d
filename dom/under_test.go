package dom_test

import (
	"math"
	"testing"

	"smithy/dom"
)

func TestUnder(t *testing.T) {
	wantUnder(t, nil)
	wantUnder(t, []int{})
	wantUnder(t, []int{-1}, nil)
	wantUnder(t, []int{-1, 0, 1, 2}, to(1), to(2), to(3), nil)
	wantUnder(t, []int{-1, 2, 0, 2, 0}, to(2, 4), nil, to(1, 3), nil, nil)
	// Rising, wherever they stand.
	wantUnder(t, []int{4, 4, 3, 4, -1}, nil, nil, nil, to(2), to(0, 1, 3))
}

// Lists that are no trees.
func TestUnderOfOtherLists(t *testing.T) {
	wantUnder(t, []int{0}, to(0))
	wantUnder(t, []int{1, 0}, to(1), to(0))
	wantUnder(t, []int{2, 2, 2}, nil, nil, to(0, 1, 2))
	wantUnder(t, []int{1, 2, 0, 3}, to(2), to(0), to(1), to(3))
	wantUnder(t, []int{math.MinInt, math.MaxInt, 4, -2, 1 << 32}[:4], nil, nil, nil, nil)
	wantUnder(t, []int{3, 3, 3}, nil, nil, nil)
}

func TestUnderOfAnyList(t *testing.T) {
	o := firstOdd
	for range 5000 {
		tree := o.anyList(20)
		wantUnder(t, tree, slowUnder(tree)...)
	}
}

func TestUnderOfLongLists(t *testing.T) {
	const n = 1 << 20
	tree := make([]int, n)
	if under := dom.Under(tree); len(under) != n || len(under[0]) != n || under[0][n-1] != n-1 || len(under[n-1]) != 0 {
		t.Error("all under one")
	}
	for i := range tree {
		tree[i] = i - 1
	}
	under := dom.Under(tree)
	for i, l := range under[:n-1] {
		if len(l) != 1 || l[0] != i+1 {
			t.Fatalf("under %d of a row: %v", i, l)
		}
	}
	if len(under) != n || len(under[n-1]) != 0 {
		t.Error("the last one of a row")
	}
}
