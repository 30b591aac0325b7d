package dom_test

import (
	"runtime/debug"
	"slices"
	"testing"

	"smithy/api"
	"smithy/dom"
)

// sort is nets of one kind, of any number of nodes from 3 on: the edges of each of n nodes (those to what is no node do not count), and its nearest one.
type sort struct {
	name  string
	edges func(i, n int) []int
	near  func(i, n int) int
}

func entry(i, n int) int { return 0 }

func before(i, n int) int { return i - 1 }

func beforeButLast(i, n int) int {
	if i == n-1 {
		return 0
	}
	return i - 1
}

// half is how many of a comb's nodes are its back.
func half(n int) int { return (n + 1) / 2 }

var sorts = []sort{
	{"a row", func(i, n int) []int { return to(i + 1) }, before},
	{"a row backward", func(i, n int) []int {
		if i == 0 {
			return to(n - 1)
		}
		return to(max(i-1, 1))
	}, func(i, n int) int { return (i + 1) % n }},
	{"a row, each back to itself, to the first ones, and to the one ahead", func(i, n int) []int { return to(i, 0, i-1, min(i, 1), min(i, 2), i+1) }, before},
	{"a row of loops in loops", func(i, n int) []int { return to(i+1, min(i, n-i)) }, before},
	{"a row of loops in loops, back first", func(i, n int) []int { return to(min(i, n-i), i+1) }, before},
	{"a circle", func(i, n int) []int { return to((i + 1) % n) }, before},
	{"a circle both ways", func(i, n int) []int { return to((i+1)%n, (i+n-1)%n) }, entry},
	{"a circle the other way first", func(i, n int) []int { return to((i+n-1)%n, (i+1)%n) }, entry},
	{"a circle both ways behind a node", func(i, n int) []int {
		if i == 0 {
			return to(1)
		}
		return to(1+i%(n-1), 1+(i+n-3)%(n-1))
	}, func(i, n int) int { return min(i-1, 1) }},
	{"a row in which each leads to the last one", func(i, n int) []int { return to(i+1, n-1) }, beforeButLast},
	{"a row in which each leads to the last one first", func(i, n int) []int { return to(n-1, i+1) }, beforeButLast},
	{"steps of one and two", func(i, n int) []int { return to(i+1, i+2) }, entry},
	{"steps of two and one", func(i, n int) []int { return to(i+2, i+1) }, entry},
	{"steps of two and one, and back", func(i, n int) []int { return to(i+2, i-1, i+1, i-2) }, entry},
	{"rungs that meet again", func(i, n int) []int {
		if i%3 == 0 {
			return to(i+1, i+2)
		}
		return to(i + 3 - i%3)
	}, func(i, n int) int { return (i - 1) / 3 * 3 }},
	{"the entry to all, in a row", func(i, n int) []int {
		if i == 0 {
			return counted(1, n)
		}
		return to(i + 1)
	}, entry},
	{"a star", func(i, n int) []int {
		if i == 0 {
			return counted(1, n)
		}
		return nil
	}, entry},
	{"a star whose points meet", func(i, n int) []int {
		if i == 0 {
			return counted(1, n-1)
		}
		return to(n - 1)
	}, entry},
	{"a comb", func(i, n int) []int {
		if i >= half(n) {
			return nil
		}
		return to(min(i+1, half(n)-1), half(n)+i)
	}, func(i, n int) int {
		if i >= half(n) {
			return i - half(n)
		}
		return i - 1
	}},
	{"a comb whose teeth lead on", func(i, n int) []int {
		if i >= half(n) {
			return to(i + 1)
		}
		return to(min(i+1, half(n)-1), half(n)+i)
	}, func(i, n int) int {
		if i >= half(n) {
			return 0
		}
		return i - 1
	}},
	{"a comb whose teeth lead back, tooth by tooth", func(i, n int) []int {
		if i >= half(n) {
			return to(max(i-1, half(n)), i-half(n)+1)
		}
		return to(min(i+1, half(n)-1), half(n)+i)
	}, func(i, n int) int {
		switch {
		case i == half(n):
			return 0
		case i > half(n):
			return i - half(n)
		}
		return i - 1
	}},
	// From each leaf at the row's end all of the row is climbed.
	{"leaves of a row's end, and of the entry", func(i, n int) []int {
		switch {
		case i == 0:
			return append(to(1), counted(half(n), n)...)
		case i == half(n)-1:
			return counted(half(n), n)
		case i >= half(n):
			return nil
		}
		return to(i + 1)
	}, func(i, n int) int {
		if i >= half(n) {
			return 0
		}
		return i - 1
	}},
}

// counted is the numbers from one on, ahead of another.
func counted(from, end int) []int {
	var l []int
	for i := from; i < end; i++ {
		l = append(l, i)
	}
	return l
}

func (s sort) made(n int) (next [][]int, tree []int) {
	next, tree = make([][]int, n), make([]int, n)
	for i := range next {
		next[i] = slices.DeleteFunc(s.edges(i, n), func(to int) bool { return to < 0 || to >= n })
		tree[i] = s.near(i, n)
	}
	tree[0] = -1
	return next, tree
}

// What is wanted of long nets is what the words say of short ones.
func TestSortsOfNets(t *testing.T) {
	for _, s := range sorts {
		for n := 4; n < 24; n++ {
			next, want := s.made(n)
			if slow := slowTree(next); !slices.Equal(slow, want) {
				t.Errorf("%s, %v: want %v; the words say %v", s.name, next, want, slow)
			}
			wantTree(t, s.name, next, want...)
		}
	}
}

func wantLong(t *testing.T, s sort, n int) {
	t.Helper()
	next, want := s.made(n)
	if got, e := dom.Tree(next); e != api.OK || !slices.Equal(got, want) {
		t.Errorf("%s of %d nodes is told otherwise, %d", s.name, n, e)
	}
}

// wantRenamed asks by other numbers and in another order of edges, so that the walk goes otherwise.
func wantRenamed(t *testing.T, s sort, n int, o *odds) {
	t.Helper()
	next, want := s.made(n)
	other, names := o.renamed(next)
	got, e := dom.Tree(other)
	if e != api.OK || len(got) != n || got[0] != -1 {
		t.Fatalf("%s of %d nodes by other numbers: %d", s.name, n, e)
	}
	for i := 1; i < n; i++ {
		if got[i] < 0 || names[got[i]] != want[names[i]] {
			t.Fatalf("%s of %d nodes is told otherwise by other numbers", s.name, n)
		}
	}
}

// Nobody calls itself along a long row, or goes along it again for each of its nodes: who does so ends the run, or never ends.
func TestLongNets(t *testing.T) {
	was := debug.SetMaxStack(1 << 20)
	defer debug.SetMaxStack(was)
	o := firstOdd
	for _, s := range sorts {
		wantLong(t, s, 400003)
		wantRenamed(t, s, 100000, &o)
	}
}

// agreed is a second way to a net's tree, for nets too great for the words: the nearest ones are set anew till nothing changes.
func agreed(next [][]int) []int {
	order, ahead := orderOf(next)
	tree := slices.Repeat([]int{-1}, len(next))
	place := make([]int, len(next))
	for i, node := range order {
		place[node] = i
	}
	tree[0] = 0
	for changed := true; changed; {
		changed = false
		for _, node := range order[1:] {
			near := -1
			for _, a := range ahead[node] {
				switch {
				case tree[a] < 0:
				case near < 0:
					near = a
				default:
					for a != near {
						if place[a] > place[near] {
							a = tree[a]
						} else {
							near = tree[near]
						}
					}
				}
			}
			if tree[node] != near {
				tree[node], changed = near, true
			}
		}
	}
	tree[0] = -1
	return tree
}

// orderOf is the reached nodes in reverse postorder, and who leads to each node.
func orderOf(next [][]int) (order []int, ahead [][]int) {
	ahead = make([][]int, len(next))
	met := make([]bool, len(next))
	var walk func(at int)
	walk = func(at int) {
		met[at] = true
		for _, to := range next[at] {
			ahead[to] = append(ahead[to], at)
			if !met[to] {
				walk(to)
			}
		}
		order = append(order, at)
	}
	walk(0)
	slices.Reverse(order)
	return order, ahead
}

func TestGreatMadeNets(t *testing.T) {
	o := firstOdd
	for range 600 {
		next := o.anyNet(3000)
		// So that most of them are reached.
		for i := range len(next) - 1 {
			if o.often(60) {
				from := o.below(i + 1)
				next[from] = append(next[from], i+1)
			}
			if len(next[i]) == 0 && o.often(95) {
				next[i] = to(i + 1)
			}
		}
		got, e := dom.Tree(next)
		if e != api.OK || !slices.Equal(got, agreed(next)) {
			t.Fatalf("a net of %d nodes is told otherwise, %d", len(next), e)
		}
	}
}

// The second way is right where the words can be asked.
func TestSecondWay(t *testing.T) {
	o := firstOdd
	for range 3000 {
		next := o.anyNet(14)
		if got, want := agreed(next), slowTree(next); !slices.Equal(got, want) {
			t.Fatalf("%v: %v; want %v", next, got, want)
		}
	}
}
