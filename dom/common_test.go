package dom_test

import (
	"math"
	"slices"
	"testing"

	"smithy/api"
	"smithy/dom"
)

// net is a list with these edges of each node.
func net(edges ...[]int) [][]int { return edges }

// to is the edges of one node.
func to(nodes ...int) []int { return nodes }

// example is the chapter's net.
func example() [][]int { return net(to(1, 2), to(3), to(3), to(1), to(3)) }

// strays are numbers that are no place in a list of that length: below 0, one too many, far too great.
func strays(length int) []int {
	return []int{-1, length, length + 1, 1 << 32, math.MaxInt, math.MinInt, -1 << 32, -2}
}

func wantTree(t *testing.T, what string, next [][]int, want ...int) {
	t.Helper()
	if got, e := dom.Tree(next); e != api.OK || !slices.Equal(got, want) {
		t.Errorf("%s: Tree(%v) tells %v, %d; want %v", what, next, got, e, want)
	}
}

func wantNone(t *testing.T, what string, next [][]int) {
	t.Helper()
	if got, e := dom.Tree(next); e != api.ErrShape || len(got) != 0 {
		t.Errorf("%s: Tree(%v) tells %v, %d; want ErrShape alone", what, next, got, e)
	}
}

func wantOver(t *testing.T, want bool, tree []int, a, b int) {
	t.Helper()
	if got := dom.Over(tree, a, b); got != want {
		t.Errorf("Over(%v, %d, %d) tells %v", tree, a, b, got)
	}
}

func wantUnder(t *testing.T, tree []int, want ...[]int) {
	t.Helper()
	if got := dom.Under(tree); !sameLists(got, want) {
		t.Errorf("Under(%v) tells %v; want %v", tree, got, want)
	}
}

func sameLists(a, b [][]int) bool {
	return slices.EqualFunc(a, b, slices.Equal[[]int])
}

// copied is a list of its own lists.
func copied(l [][]int) [][]int {
	l = slices.Clone(l)
	for i := range l {
		l[i] = slices.Clone(l[i])
	}
	return l
}

// odds are numbers without a pattern, the same ones each time.
type odds uint64

const firstOdd odds = 0x9e3779b97f4a7c15

func (o *odds) number() uint64 {
	w := uint64(*o)
	w ^= w << 13
	w ^= w >> 7
	w ^= w << 17
	*o = odds(w)
	return w * 0x2545f4914f6cdd1d
}

func (o *odds) below(n int) int { return int(o.number() >> 33 % uint64(n)) }

// often tells true about so many times in a hundred.
func (o *odds) often(percent int) bool { return o.below(100) < percent }

func pick[T any](o *odds, l ...T) T { return l[o.below(len(l))] }

func (o *odds) shuffled(n int) []int {
	l := make([]int, n)
	for i := range l {
		j := o.below(i + 1)
		l[i], l[j] = l[j], i
	}
	return l
}

// mixed is a list in another order.
func (o *odds) mixed(l []int) []int {
	var other []int
	for _, i := range o.shuffled(len(l)) {
		other = append(other, l[i])
	}
	return other
}

// anyNet is a net that may be, of some of many sorts: thin and thick ones, such as lead on mostly, such as lead to nodes close by.
func (o *odds) anyNet(most int) [][]int {
	next := make([][]int, 1+o.below(most))
	thick, near, back := pick(o, 1, 2, 3, 5), pick(o, 0, 2, 4), pick(o, 10, 30, 50)
	for i := range next {
		for range o.below(thick + 1) {
			to := o.below(len(next))
			if near > 0 && o.often(90) {
				to = i + 1 + o.below(near)
				if o.often(back) {
					to = i - o.below(near)
				}
				to = min(max(to, 0), len(next)-1)
			}
			next[i] = append(next[i], to)
		}
	}
	return next
}

// renamed is a net whose nodes but the entry have other numbers, and whose edges stand in another order: names[i] is what i was.
func (o *odds) renamed(next [][]int) (other [][]int, names []int) {
	names = []int{0}
	for _, i := range o.shuffled(len(next) - 1) {
		names = append(names, i+1)
	}
	now := make([]int, len(next))
	for i, was := range names {
		now[was] = i
	}
	other = make([][]int, len(next))
	for i, was := range names {
		for _, to := range o.mixed(next[was]) {
			other[i] = append(other[i], now[to])
		}
	}
	return other, names
}

// anyList is a list of numbers, places of it and others.
func (o *odds) anyList(most int) []int {
	l := make([]int, o.below(most+1))
	for i := range l {
		l[i] = o.below(len(l))
		if o.often(20) {
			l[i] = pick(o, strays(len(l))...)
		}
	}
	return l
}
