package dom_test

import (
	"testing"

	"smithy/dom"
)

func TestOverOfNoPlace(t *testing.T) {
	for _, tree := range [][]int{nil, {}, {-1}, {0}, {1, 0}, {-1, 0, 1, 2}, {5, 5, 5}, {-1, -1}} {
		for _, stray := range strays(len(tree)) {
			for i := range tree {
				wantOver(t, false, tree, stray, i)
				wantOver(t, false, tree, i, stray)
			}
			for _, other := range strays(len(tree)) {
				wantOver(t, false, tree, stray, other)
			}
		}
	}
	// What stands in the list, but is no place, is not met either.
	wantOver(t, false, []int{-1, 0}, -1, 1)
	wantOver(t, false, []int{7, 0}, 7, 1)
	wantOver(t, false, []int{2, 0, 1}[:2], 2, 1)
}

func TestOverOfTrees(t *testing.T) {
	row := []int{-1, 0, 1, 2, 3}
	for a := range row {
		for b := range row {
			wantOver(t, a <= b, row, a, b)
		}
	}
	comb := []int{-1, 0, 0, 1, 1, 2}
	for a, under := range [][]int{{0, 1, 2, 3, 4, 5}, {1, 3, 4}, {2, 5}, {3}, {4}, {5}} {
		is := map[int]int{}
		for _, b := range under {
			is[b] = 1
		}
		for b := range comb {
			wantOver(t, is[b] == 1, comb, a, b)
		}
	}
}

// Lists that are no trees: circles, ways into circles, more than one that has none over it.
func TestOverOfOtherLists(t *testing.T) {
	circle := []int{4, 0, 1, 2, 3}
	for a := range circle {
		for b := range circle {
			wantOver(t, true, circle, a, b)
		}
	}
	self := []int{0, 1, 1, 2}
	wantOver(t, true, self, 0, 0)
	wantOver(t, false, self, 0, 1)
	wantOver(t, true, self, 1, 3)
	wantOver(t, false, self, 3, 1)
	wantOver(t, false, self, 0, 3)
	// Into a circle, and not out of it again: the last one of it is as far as the list is long, but for one.
	tail := []int{1, 2, 3, 1, 0}
	for _, a := range []int{4, 0, 1, 2, 3} {
		wantOver(t, true, tail, a, 4)
	}
	wantOver(t, false, tail, 0, 1)
	wantOver(t, false, tail, 4, 3)
	two := []int{-1, 9, 0, 1}
	wantOver(t, true, two, 0, 2)
	wantOver(t, true, two, 1, 3)
	wantOver(t, false, two, 0, 3)
	wantOver(t, false, two, 1, 2)
	wantOver(t, false, two, 9, 1)
}

func TestOverOfAnyList(t *testing.T) {
	o := firstOdd
	yes, no := 0, 0
	for range 4000 {
		tree := o.anyList(9)
		for a := -2; a < len(tree)+2; a++ {
			for b := -2; b < len(tree)+2; b++ {
				want := slowMet(tree, a, b)
				wantOver(t, want, tree, a, b)
				if want {
					yes++
				} else {
					no++
				}
			}
		}
		if t.Failed() {
			t.FailNow()
		}
	}
	if yes < 20000 || no < 20000 {
		t.Errorf("%d were over, %d were not", yes, no)
	}
}

// All lists of up to four places, with what is none among their entries.
func TestOverAndUnderOfAllShortLists(t *testing.T) {
	var tree []int
	var all func(n int)
	all = func(n int) {
		if len(tree) == n {
			for a := -1; a <= n; a++ {
				for b := -1; b <= n; b++ {
					wantOver(t, slowMet(tree, a, b), tree, a, b)
				}
			}
			wantUnder(t, tree, slowUnder(tree)...)
			return
		}
		for i := -1; i <= n; i++ {
			tree = append(tree, i)
			all(n)
			tree = tree[:len(tree)-1]
		}
	}
	for n := range 5 {
		all(n)
	}
}

// A long way up: to its top, to what is not on it, and round a circle.
func TestLongWaysUp(t *testing.T) {
	const n = 1 << 20
	tree := make([]int, n)
	for i := range tree {
		tree[i] = i - 1
	}
	for _, c := range []struct {
		a, b int
		want bool
	}{{0, n - 1, true}, {1, n - 1, true}, {n - 1, n - 1, true}, {n - 1, 0, false}, {n - 1, n - 2, false}, {n, n - 1, false}, {-1, n - 1, false}} {
		if dom.Over(tree, c.a, c.b) != c.want {
			t.Errorf("Over(a row, %d, %d) tells %v", c.a, c.b, !c.want)
		}
	}
	tree[0] = n - 1
	if !dom.Over(tree, n-1, 0) || !dom.Over(tree, 1, 0) || !dom.Over(tree, 5, 4) {
		t.Error("what is met on the way round a circle is not over")
	}
	tree[0], tree[n-1] = n-2, 0
	if dom.Over(tree, n-1, 0) || !dom.Over(tree, n-2, n-1) || !dom.Over(tree, 1, n-1) {
		t.Error("a circle without the last place")
	}
}
