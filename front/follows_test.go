package front_test

import (
	"slices"
	"testing"

	"smithy/api"
	"smithy/dom"
	"smithy/front"
)

// marksOf tells where marks stand: at the entry, at some nodes and at their joins.
func marksOf(t *testing.T, next [][]int, from []int) []bool {
	t.Helper()
	joins, e := front.Joins(next, from)
	if e != api.OK {
		t.Fatalf("Joins(%v, %v) is refused: %d", next, from, e)
	}
	marked := make([]bool, len(next))
	marked[0] = true
	for _, i := range slices.Concat(from, joins) {
		marked[i] = true
	}
	return marked
}

// wantOneMark asks that there is just one last mark at each reached node, whichever way one comes: the nearest one.
func wantOneMark(t *testing.T, next [][]int, from []int) {
	t.Helper()
	over := slowOver(next)
	marked := marksOf(t, next, from)
	for b, last := range lastMarks(next, marked) {
		var want []int
		if over[b][b] {
			want = to(nearestMark(over, marked, b))
		}
		if !slices.Equal(last, want) {
			t.Fatalf("%v, marks of %v: at %d the last marks are %v; want %v", next, from, b, last, want)
		}
	}
}

// P11.3, by all ways there are.
func TestOneLastMark(t *testing.T) {
	for nodes := 1; nodes <= 3; nodes++ {
		rows := allRows(nodes, 2)
		for bits := range 1 << (nodes * nodes) {
			for _, from := range rows {
				wantOneMark(t, lattice(nodes, bits), from)
			}
		}
	}
	o := firstOdd
	for range 6000 {
		next := o.anyNet(pick(&o, 6, 12, 30))
		if o.often(50) {
			next = o.metNet(pick(&o, 6, 12, 30))
		}
		wantOneMark(t, next, o.anyFrom(len(next)))
	}
}

// P11.3, by ways that are gone step by step, through nets too great for the words.
func TestWaysOfMadeNets(t *testing.T) {
	o := firstOdd
	met, changed := 0, 0
	for range 300 {
		next := o.metNet(800)
		marked := marksOf(t, next, o.anyFrom(len(next)))
		tree, _ := dom.Tree(next)
		for range 20 {
			at, last := 0, 0
			for steps := 0; steps < 300 && len(next[at]) > 0; steps++ {
				at = pick(&o, next[at]...)
				if marked[at] {
					last = at
					changed++
				}
				up := at
				for !marked[up] {
					up = tree[up]
				}
				if up != last {
					t.Fatalf("a net of %d nodes: the last mark at %d is %d; want %d", len(next), at, last, up)
				}
				met++
			}
		}
	}
	if met < 100000 || changed < 10000 || met-changed < 10000 {
		t.Errorf("%d nodes were met, %d of them with marks of their own", met, changed)
	}
}

// No join is too many: without one that has no other mark, some node may have two last marks.
func TestJoinsAreNeeded(t *testing.T) {
	o := firstOdd
	needed, not := 0, 0
	for range 3000 {
		next := o.metNet(20)
		from := o.anyFrom(len(next))
		joins, _ := front.Joins(next, from)
		marked := marksOf(t, next, from)
		for _, join := range joins {
			if join == 0 || slices.Contains(from, join) {
				continue
			}
			marked[join] = false
			if slices.ContainsFunc(lastMarks(next, marked), func(l []int) bool { return len(l) > 1 }) {
				needed++
			} else {
				not++
			}
			marked[join] = true
		}
	}
	if needed < 1000 || not > 0 {
		t.Errorf("%d joins were needed, %d were not", needed, not)
	}
}
