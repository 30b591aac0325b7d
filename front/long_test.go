package front_test

import (
	"runtime/debug"
	"slices"
	"testing"

	"smithy/api"
	"smithy/dom"
	"smithy/front"
)

// sort is nets of one kind, of any number of nodes from 4 on: the edges of each of n nodes, and its front. In both what is no node does not count.
type sort struct {
	name  string
	edges func(i, n int) []int
	front func(i, n int) []int
}

func nothing(i, n int) []int { return nil }

func onlyEntry(i, n int) []int { return to(0) }

// beside are the nodes beside one on a circle; the entry has itself alone.
func beside(i, n int) []int {
	if i == 0 {
		return to(0)
	}
	return to((i+1)%n, i-1)
}

// ends is the last node, for all but the first and the last.
func ends(i, n int) []int {
	if i == 0 || i == n-1 {
		return nil
	}
	return to(n - 1)
}

// butEntry is a rule for all nodes but the entry, which has nothing.
func butEntry(rule func(i, n int) []int) func(i, n int) []int {
	return func(i, n int) []int {
		if i == 0 {
			return nil
		}
		return rule(i, n)
	}
}

// comb is a row of even nodes, each with an odd one as its tooth, and where a tooth leads.
func comb(tooth func(i, n int) []int) func(i, n int) []int {
	return func(i, n int) []int {
		if i%2 == 1 {
			return tooth(i, n)
		}
		return to(i+1, i+2)
	}
}

var sorts = []sort{
	{"a row", func(i, n int) []int { return to(i + 1) }, nothing},
	{"a row, each back to the entry", func(i, n int) []int { return to(i+1, 0) }, onlyEntry},
	{"a row, back to the entry first, and again", func(i, n int) []int { return to(0, i+1, 0) }, onlyEntry},
	{"a row backward, each back to the entry", func(i, n int) []int { return to((i+n-1)%n, 0) }, onlyEntry},
	{"a row, each back to the second one", func(i, n int) []int { return to(1, i+1) }, butEntry(func(i, n int) []int { return to(1) })},
	{"a row, each back to itself, to the first ones, and to the one ahead", func(i, n int) []int { return to(i, 0, i-1, min(i, 1), min(i, 2), i+1) }, func(i, n int) []int {
		return to(0, min(i, 1), min(i, 2), i-1, i)
	}},
	{"a circle", func(i, n int) []int { return to((i + 1) % n) }, onlyEntry},
	{"a circle both ways", func(i, n int) []int { return to((i+1)%n, (i+n-1)%n) }, beside},
	{"a circle the other way first", func(i, n int) []int { return to((i+n-1)%n, (i+1)%n) }, beside},
	{"a row in which each leads to the last one", func(i, n int) []int { return to(i+1, n-1) }, func(i, n int) []int {
		if i == n-1 {
			return to(n - 1)
		}
		return ends(i, n)
	}},
	{"a row in which each leads to the last one first", func(i, n int) []int {
		if i == n-1 {
			return nil
		}
		return to(n-1, i+1)
	}, ends},
	{"steps of one and two", func(i, n int) []int { return to(i+1, i+2) }, butEntry(func(i, n int) []int { return to(i+1, i+2) })},
	{"steps of two and one, and back", func(i, n int) []int { return to(i+2, i-1, i+1, i-2) }, func(i, n int) []int {
		if i == 0 {
			return to(0)
		}
		return to(i-2, i-1, i+1, i+2)
	}},
	{"rungs that meet again", func(i, n int) []int {
		if i%3 == 0 {
			return to(i+1, i+2)
		}
		return to(i + 3 - i%3)
	}, func(i, n int) []int { return slices.Repeat(to(i+3-i%3), min(i%3, 1)) }},
	{"the entry to all, in a row", func(i, n int) []int {
		if i == 0 {
			return counted(1, n)
		}
		return to(i + 1)
	}, butEntry(func(i, n int) []int { return to(i + 1) })},
	{"a star", func(i, n int) []int {
		if i == 0 {
			return counted(1, n)
		}
		return nil
	}, nothing},
	{"a star whose points meet", func(i, n int) []int {
		if i == 0 {
			return counted(1, n-1)
		}
		return to(n - 1)
	}, butEntry(func(i, n int) []int { return to(n - 1) })},
	{"a star whose points lead back", func(i, n int) []int {
		if i == 0 {
			return counted(1, n)
		}
		return to(0)
	}, onlyEntry},
	{"a comb", comb(nothing), nothing},
	{"a comb whose teeth lead to the entry", comb(onlyEntry), func(i, n int) []int {
		if i%2 == 0 && i+1 >= n {
			return nil
		}
		return to(0)
	}},
	{"a comb whose teeth lead to themselves", comb(func(i, n int) []int { return to(i) }), func(i, n int) []int { return slices.Repeat(to(i), i%2) }},
	{"a comb whose teeth lead back to the row", comb(func(i, n int) []int { return to(i - 1) }), func(i, n int) []int {
		if i+1 >= n && i%2 == 0 {
			return nil
		}
		return to(i - i%2)
	}},
	{"a comb whose teeth lead on to the row", comb(func(i, n int) []int { return to(i + 1) }), func(i, n int) []int { return slices.Repeat(to(i+1), i%2) }},
	{"a comb whose teeth lead back, tooth by tooth", comb(func(i, n int) []int { return to(i - 2) }), butEntry(func(i, n int) []int {
		if i%2 == 1 {
			return to(i - 2)
		}
		return slices.Repeat(to(i-1), min(max(n-i-1, 0), 1))
	})},
}

// counted is the numbers from one on, ahead of another.
func counted(from, end int) []int {
	l := make([]int, 0, max(end-from, 0))
	for i := from; i < end; i++ {
		l = append(l, i)
	}
	return l
}

// among is those of a list that are nodes, each once, rising.
func among(l []int, n int) []int {
	return slices.DeleteFunc(slices.Compact(sorted(l)), func(i int) bool { return i < 0 || i >= n })
}

// madeNet is the net of a rule's edges, in the rule's order.
func madeNet(edges func(i, n int) []int, n int) [][]int {
	next := make([][]int, n)
	for i := range next {
		next[i] = slices.DeleteFunc(edges(i, n), func(to int) bool { return to < 0 || to >= n })
	}
	return next
}

func (s sort) made(n int) (next, fronts [][]int) {
	fronts = make([][]int, n)
	for i := range fronts {
		fronts[i] = among(s.front(i, n), n)
	}
	return madeNet(s.edges, n), fronts
}

// followed is the joins of some nodes by their fronts: who is met in one for the first time is gone on from.
func followed(fronts [][]int, from []int) []int {
	met, gone := make([]bool, len(fronts)), make([]bool, len(fronts))
	for row := slices.Clone(from); len(row) > 0; {
		a := row[len(row)-1]
		row = row[:len(row)-1]
		if gone[a] {
			continue
		}
		gone[a] = true
		for _, b := range fronts[a] {
			met[b] = true
			row = append(row, b)
		}
	}
	var joins []int
	for b := range met {
		if met[b] {
			joins = append(joins, b)
		}
	}
	return joins
}

// rowsOf are rows to begin with, of nets of n nodes: few nodes and many, from either end on.
func rowsOf(n int) [][]int {
	all := counted(0, n)
	back := slices.Clone(all)
	slices.Reverse(back)
	some := slices.DeleteFunc(slices.Clone(all), func(i int) bool { return i%3 != 1 })
	return [][]int{nil, to(0), to(1), to(2), to(n / 2), to(n - 2), to(n - 1), to(n-1, 1, n/2, 1), some, all, back}
}

// What is wanted of long nets is what the words say of short ones.
func TestSortsOfNets(t *testing.T) {
	for _, s := range sorts {
		for n := 4; n < 24; n++ {
			next, want := s.made(n)
			if slow := slowFronts(next, slowOver(next)); !sameLists(slow, want) {
				t.Fatalf("%s, %v: want %v; the words say %v", s.name, next, want, slow)
			}
			wantFronts(t, s.name, next, want...)
			for _, from := range rowsOf(n) {
				joins := followed(want, from)
				if slow := slowJoins(want, from); !slices.Equal(slow, joins) {
					t.Fatalf("%s, %v: of %v want %v; the words say %v", s.name, next, from, joins, slow)
				}
				wantJoins(t, s.name, next, from, joins...)
			}
		}
	}
}

// wantLong asks for fronts and joins of a net too long to be told.
func wantLong(t *testing.T, what string, next, fronts [][]int, rows [][]int) {
	t.Helper()
	if got, e := front.Fronts(next); e != api.OK || !sameLists(got, fronts) {
		t.Errorf("%s of %d nodes: the fronts are told otherwise, %d", what, len(next), e)
	}
	for _, from := range rows {
		if got, e := front.Joins(next, from); e != api.OK || !slices.Equal(got, followed(fronts, from)) {
			t.Errorf("%s of %d nodes: the joins of %d nodes are told otherwise, %d", what, len(next), len(from), e)
		}
	}
}

// Nobody calls itself along a long row, or goes along it again for each of its nodes or edges: who does so ends the run, or never ends.
func TestLongNets(t *testing.T) {
	was := debug.SetMaxStack(1 << 20)
	defer debug.SetMaxStack(was)
	const n = 200003
	for _, s := range sorts {
		next, fronts := s.made(n)
		wantLong(t, s.name, next, fronts, [][]int{to(n / 2), counted(0, n)})
	}
}

// By other numbers, and edges in another order, nothing is met in the order of the row.
func TestLongNetsByOtherNumbers(t *testing.T) {
	o := firstOdd
	const n = 30000
	for _, s := range sorts {
		next, fronts := s.made(n)
		other, names, now := o.renamed(next)
		renamed := make([][]int, n)
		for i := range renamed {
			renamed[i] = sorted(by(now, fronts[names[i]]))
		}
		wantLong(t, s.name+" by other numbers", other, renamed, [][]int{to(now[n/2]), to(now[n-1]), o.shuffled(n)})
	}
}

// thick is nets whose fronts are together far more than their nodes: joins must not hang on that. The joins of each node by itself are a rule; those of more are these together.
type thick struct {
	name  string
	edges func(i, n int) []int
	joins func(i, n int) []int
}

// half is the first of the leaves of a net whose other half they are.
func half(n int) int { return (n + 1) / 2 }

// onward is the teeth of a comb from one place on.
func onward(from, n int) []int {
	var l []int
	for i := from | 1; i < n; i += 2 {
		l = append(l, i)
	}
	return l
}

var thicks = []thick{
	{"a row of loops in loops", func(i, n int) []int { return to(i+1, min(i, n-i)) }, func(i, n int) []int {
		if i == 0 {
			return to(0)
		}
		return counted(1, min(i, n-i)+1)
	}},
	{"a row of loops in loops, back first", func(i, n int) []int { return to(min(i, n-i), i+1) }, func(i, n int) []int {
		if i == 0 {
			return to(0)
		}
		return counted(1, min(i, n-i)+1)
	}},
	{"a comb whose teeth lead on", comb(func(i, n int) []int { return to(i + 2) }), func(i, n int) []int {
		if i == 0 {
			return nil
		}
		return onward(i+1+i%2, n)
	}},
	{"leaves of a row's end, and of the entry", func(i, n int) []int {
		switch {
		case i == 0:
			return append(to(1), counted(half(n), n)...)
		case i == half(n)-1:
			return counted(half(n), n)
		case i >= half(n):
			return nil
		}
		return to(i + 1)
	}, func(i, n int) []int {
		if i == 0 || i >= half(n) {
			return nil
		}
		return counted(half(n), n)
	}},
	{"a row whose end leads back to each", func(i, n int) []int {
		if i == n-1 {
			return counted(0, n)
		}
		return to(i + 1)
	}, func(i, n int) []int { return counted(0, i+1) }},
}

func TestThickNets(t *testing.T) {
	for _, s := range thicks {
		for n := 4; n < 24; n++ {
			next := madeNet(s.edges, n)
			slow := slowFronts(next, slowOver(next))
			wantFronts(t, s.name, next, slow...)
			for i := range n {
				want := among(s.joins(i, n), n)
				if words := slowJoins(slow, to(i)); !slices.Equal(words, want) {
					t.Fatalf("%s, %v: of %d want %v; the words say %v", s.name, next, i, want, words)
				}
				wantJoins(t, s.name, next, to(i), want...)
			}
			for _, from := range rowsOf(n) {
				wantJoins(t, s.name, next, from, slowJoins(slow, from)...)
			}
		}
	}
}

func TestLongThickNets(t *testing.T) {
	was := debug.SetMaxStack(1 << 20)
	defer debug.SetMaxStack(was)
	const n = 300000
	for _, s := range thicks {
		next := madeNet(s.edges, n)
		for _, from := range [][]int{nil, to(2), to(n / 2), to(n - 1), to(n/3, n/2+1, n/3)} {
			var want []int
			for _, i := range from {
				want = append(want, s.joins(i, n)...)
			}
			if got, e := front.Joins(next, from); e != api.OK || !slices.Equal(got, among(want, n)) {
				t.Errorf("%s of %d nodes: the joins of %v are told otherwise, %d", s.name, n, from, e)
			}
		}
		one, e := front.Joins(next, counted(0, n))
		all := slices.Concat(s.joins(0, n), s.joins(1, n), s.joins(n/2, n), s.joins(n-1, n), s.joins(half(n)-1, n))
		if e != api.OK || !slices.Equal(one, among(all, n)) {
			t.Errorf("%s of %d nodes: the joins of all are told otherwise, %d", s.name, n, e)
		}
	}
}

// treeFronts is a second way to a net's fronts, for nets too great for the words: who stands over whom is taken off dom's tree, and each edge is laid to all that stand over its beginning.
func treeFronts(next [][]int) [][]int {
	tree, _ := dom.Tree(next)
	fronts := make([][]int, len(next))
	for i, edges := range next {
		if i > 0 && tree[i] < 0 {
			continue
		}
		for _, b := range edges {
			strictly := map[int]int{}
			for a := tree[b]; a >= 0; a = tree[a] {
				strictly[a] = 1
			}
			for a := i; a >= 0; a = tree[a] {
				if strictly[a] == 0 {
					fronts[a] = append(fronts[a], b)
				}
			}
		}
	}
	for a := range fronts {
		fronts[a] = slices.Compact(sorted(fronts[a]))
	}
	return fronts
}

func TestGreatMadeNets(t *testing.T) {
	o := firstOdd
	for range 200 {
		next := o.metNet(3000)
		fronts := treeFronts(next)
		wantLong(t, "a made net", next, fronts, [][]int{o.anyFrom(len(next)), o.anyFrom(len(next)), to(o.below(len(next)))})
	}
}

// The second way is right where the words can be asked.
func TestSecondWay(t *testing.T) {
	o := firstOdd
	for range 3000 {
		next := o.anyNet(14)
		want := slowFronts(next, slowOver(next))
		if got := treeFronts(next); !sameLists(got, want) {
			t.Fatalf("%v: %v; want %v", next, got, want)
		}
		from := o.anyFrom(len(next))
		if got := followed(want, from); !slices.Equal(got, slowJoins(want, from)) {
			t.Fatalf("%v, %v: %v; want %v", next, from, got, slowJoins(want, from))
		}
	}
}
