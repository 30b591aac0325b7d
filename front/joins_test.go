package front_test

import (
	"slices"
	"testing"

	"smithy/api"
	"smithy/front"
)

// fork is a fork in whose second arm another one stands, both of which join, in a loop: 1 to 8; 9 is behind it.
func fork() [][]int {
	return net(to(1), to(2, 3, 9), to(8), to(4, 5), to(6), to(6), to(7), to(8), to(1), nil)
}

func TestNoneToBeginWith(t *testing.T) {
	for _, next := range [][][]int{net(nil), net(to(0)), example(), fork()} {
		wantJoins(t, "none", next, nil)
		wantJoins(t, "an empty row", next, to())
		wantJoins(t, "an empty row with spare room", next, to(0, 99)[:0])
	}
}

func TestJoinsOfOneNode(t *testing.T) {
	wantJoins(t, "no edges", net(nil), to(0))
	wantJoins(t, "no edges, twice", net(nil), to(0, 0))
	wantJoins(t, "an edge to itself", net(to(0)), to(0), 0)
	wantJoins(t, "an edge to itself, twice", net(to(0, 0)), to(0, 0), 0)
}

// Those to begin with are no joins themselves, unless they are in a front.
func TestWhoJoins(t *testing.T) {
	wantJoins(t, "the entry", fork(), to(0))
	wantJoins(t, "the loop's head", fork(), to(1), 1)
	wantJoins(t, "an arm", fork(), to(2), 1, 8)
	wantJoins(t, "the head of the inner one", fork(), to(3), 1, 8)
	wantJoins(t, "an inner arm", fork(), to(4), 1, 6, 8)
	wantJoins(t, "both inner arms", fork(), to(5, 4), 1, 6, 8)
	wantJoins(t, "the inner join", fork(), to(6), 1, 8)
	wantJoins(t, "the last join", fork(), to(8), 1)
	wantJoins(t, "behind the loop", fork(), to(9))
	wantJoins(t, "behind the loop and in it", fork(), to(9, 7, 0), 1, 8)
	wantJoins(t, "all", fork(), to(0, 1, 2, 3, 4, 5, 6, 7, 8, 9), 1, 6, 8)
}

// What is found deep is found by others, too, and what is found late is gone on from all the same.
func TestJoinsOfJoins(t *testing.T) {
	stairs := net(to(1, 2), to(3, 4), to(4), to(5, 6), to(6), to(7, 8), to(8), nil, nil)
	wantJoins(t, "stairs", stairs, to(1), 4, 6, 8)
	wantJoins(t, "stairs from the side", stairs, to(2), 4, 6, 8)
	wantJoins(t, "stairs from within", stairs, to(5), 8)
	wantJoins(t, "stairs, from the end on", stairs, to(7, 6, 5), 8)
	wantJoins(t, "two ways in", net(to(1, 2), to(2), to(1)), to(1), 1, 2)
	wantJoins(t, "both ways along", net(to(1, 4), to(2), to(1, 3), to(2, 4), to(3)), to(2), 1, 2, 3, 4)
	wantJoins(t, "back to the entry", net(to(1), to(2), to(0)), to(1), 0)
	wantJoins(t, "loops in loops", net(to(1), to(2), to(3), to(4, 3), to(5, 2), to(6, 1), nil), to(3), 1, 2, 3)
	wantJoins(t, "loops in loops, from the middle", net(to(1), to(2), to(3), to(4, 3), to(5, 2), to(6, 1), nil), to(5), 1)
}

// The same node twice is there once; the order of those to begin with plays no part.
func TestTwiceToBeginWith(t *testing.T) {
	o := firstOdd
	for range 3000 {
		next := o.anyNet(12)
		from := o.anyFrom(len(next))
		want, _ := front.Joins(next, slices.Compact(sorted(from)))
		wantJoins(t, "twice", next, append(o.mixed(from), from...), want...)
	}
}

// Nodes that are not reached have no joins, and take none away.
func TestNotReachedToBeginWith(t *testing.T) {
	wantJoins(t, "the chapter's", example(), to(5))
	wantJoins(t, "the chapter's, with one that is reached", example(), to(5, 1, 5), 1, 3)
	wantJoins(t, "to itself", net(to(0), to(1)), to(1))
	wantJoins(t, "to the entry", net(nil, to(0), to(1)), to(2, 1))
	wantJoins(t, "joining", net(nil, to(3), to(3), to(1, 2)), to(1, 2, 3))
	o := firstOdd
	for range 3000 {
		next := o.anyNet(12)
		from := o.anyFrom(len(next))
		met := reached(next, nobody)
		only := slices.DeleteFunc(slices.Clone(from), func(i int) bool { return !met[i] })
		want, _ := front.Joins(next, only)
		wantJoins(t, "with others", next, from, want...)
		if slices.ContainsFunc(want, func(i int) bool { return !met[i] }) {
			t.Fatalf("Joins(%v, %v) tells %v: some are not reached", next, from, want)
		}
	}
}

// allRows are the rows of up to so many of some nodes.
func allRows(nodes, most int) [][]int {
	rows := [][]int{nil}
	for i := 0; i < len(rows) && len(rows[i]) < most; i++ {
		for node := range nodes {
			rows = append(rows, append(slices.Clone(rows[i]), node))
		}
	}
	return rows
}

// lattice is the net of so many nodes whose edges are the bits of a number.
func lattice(nodes, bits int) [][]int {
	next := make([][]int, nodes)
	for i := range next {
		for j := range next {
			if bits>>(i*nodes+j)&1 == 1 {
				next[i] = append(next[i], j)
			}
		}
	}
	return next
}

// fronts is a net's fronts, held against the words.
func fronts(t *testing.T, next [][]int) [][]int {
	t.Helper()
	got, e := front.Fronts(next)
	if want := slowFronts(next, slowOver(next)); e != api.OK || !sameLists(got, want) {
		t.Fatalf("Fronts(%v) tells %v, %d; want %v", next, got, e, want)
	}
	return got
}

// wantWords holds a net's fronts and joins against the words.
func wantWords(t *testing.T, next [][]int, rows ...[]int) {
	t.Helper()
	told := fronts(t, next)
	for _, from := range rows {
		got, e := front.Joins(next, from)
		if want := slowJoins(told, from); e != api.OK || !slices.Equal(got, want) {
			t.Fatalf("Joins(%v, %v) tells %v, %d; want %v", next, from, got, e, want)
		}
		if !rises(got) {
			t.Fatalf("Joins(%v, %v) tells %v, which does not rise", next, from, got)
		}
	}
}

func TestAllSmallNets(t *testing.T) {
	for nodes := 1; nodes <= 3; nodes++ {
		rows := allRows(nodes, 4)
		for bits := range 1 << (nodes * nodes) {
			wantWords(t, lattice(nodes, bits), rows...)
		}
	}
}

// Of four nodes: each alone, and all pairs.
func TestAllNetsOfFourNodes(t *testing.T) {
	rows := [][]int{to(0), to(1), to(2), to(3), to(0, 1), to(2, 0), to(0, 3), to(2, 1), to(1, 3), to(3, 2)}
	for bits := range 1 << 16 {
		wantWords(t, lattice(4, bits), rows...)
	}
}

func TestMadeNets(t *testing.T) {
	o := firstOdd
	own, many, more, unmet := 0, 0, 0, 0
	for range 9000 {
		next := o.anyNet(pick(&o, 6, 12, 30))
		if o.often(50) {
			next = o.metNet(pick(&o, 6, 12, 30))
		}
		from := o.anyFrom(len(next))
		wantWords(t, next, from, o.anyFrom(len(next)), to(o.below(len(next))))
		met := reached(next, nobody)
		told, _ := front.Fronts(next)
		joins, _ := front.Joins(next, from)
		var first []int
		for _, a := range from {
			first = append(first, told[a]...)
		}
		if slices.ContainsFunc(joins, func(b int) bool { return !slices.Contains(first, b) }) {
			more++
		}
		for a, row := range told {
			if slices.Contains(row, a) {
				own++
			}
			if len(row) > 2 {
				many++
			}
			if !met[a] {
				unmet++
			}
		}
	}
	if own < 5000 || many < 5000 || more < 500 || unmet < 5000 {
		t.Errorf("%d nodes were in their own fronts, %d fronts had three or more, %d joins were of joins alone, %d nodes were not reached", own, many, more, unmet)
	}
}

// Edges in another order, edges that are named again, and edges from what is not reached play no part.
func TestWhatPlaysNoPart(t *testing.T) {
	o := firstOdd
	for range 4000 {
		next := o.anyNet(16)
		from := o.anyFrom(len(next))
		told := slowFronts(next, slowOver(next))
		met := reached(next, nobody)
		for i := range next {
			for range o.below(4) {
				if len(next[i]) > 0 && (met[i] || o.often(50)) {
					next[i] = append(next[i], pick(&o, next[i]...))
				} else if !met[i] {
					next[i] = append(next[i], o.below(len(next)))
				}
			}
			next[i] = o.mixed(next[i])
		}
		wantFronts(t, "with more edges", next, told...)
		wantJoins(t, "with more edges", next, from, slowJoins(told, from)...)
	}
}

// Whatever the nodes' numbers are: the same nodes have the same fronts and joins.
func TestOtherNumbers(t *testing.T) {
	o := firstOdd
	for range 4000 {
		next := o.anyNet(24)
		from := o.anyFrom(len(next))
		other, names, now := o.renamed(next)
		was, _ := front.Fronts(next)
		want := make([][]int, len(was))
		for i := range want {
			want[i] = sorted(by(now, was[names[i]]))
		}
		wantFronts(t, "other numbers", other, want...)
		joins, _ := front.Joins(next, from)
		wantJoins(t, "other numbers", other, by(now, from), sorted(by(now, joins))...)
	}
}

// The joins of some nodes are those of each, taken together; and those of them and their joins are the same.
func TestJoinsTakenTogether(t *testing.T) {
	o := firstOdd
	for range 3000 {
		next := o.metNet(20)
		from := o.anyFrom(len(next))
		want, _ := front.Joins(next, from)
		var all []int
		for _, a := range from {
			joins, _ := front.Joins(next, to(a))
			all = append(all, joins...)
		}
		if got := slices.Compact(sorted(all)); !slices.Equal(got, want) {
			t.Fatalf("%v: the joins of %v are %v; of each alone %v", next, from, want, got)
		}
		wantJoins(t, "with their joins", next, append(slices.Clone(want), from...), want...)
	}
}
