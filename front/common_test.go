package front_test

import (
	"math"
	"slices"
	"testing"

	"smithy/api"
	"smithy/front"
)

// net is a list with these edges of each node.
func net(edges ...[]int) [][]int { return edges }

// to is the edges of one node, or a row of nodes to begin with.
func to(nodes ...int) []int { return nodes }

// example is the chapter's net.
func example() [][]int { return net(to(1, 2), to(3), to(3), to(1, 4), nil, to(3)) }

// strays are numbers that are no node of a net of that length: below 0, one too many, far too great.
func strays(length int) []int {
	return []int{-1, length, length + 1, 1 << 32, math.MaxInt, math.MinInt, -1 << 32, -2}
}

func wantFronts(t *testing.T, what string, next [][]int, want ...[]int) {
	t.Helper()
	if got, e := front.Fronts(next); e != api.OK || !sameLists(got, want) {
		t.Errorf("%s: Fronts(%v) tells %v, %d; want %v", what, next, got, e, want)
	}
}

func wantJoins(t *testing.T, what string, next [][]int, from []int, want ...int) {
	t.Helper()
	if got, e := front.Joins(next, from); e != api.OK || !slices.Equal(got, want) {
		t.Errorf("%s: Joins(%v, %v) tells %v, %d; want %v", what, next, from, got, e, want)
	}
}

// wantNoNet asks that a net is refused, whatever nodes there are to begin with.
func wantNoNet(t *testing.T, what string, next [][]int) {
	t.Helper()
	if got, e := front.Fronts(next); e != api.ErrShape || len(got) != 0 {
		t.Errorf("%s: Fronts(%v) tells %v, %d; want ErrShape alone", what, next, got, e)
	}
	for _, from := range [][]int{nil, to(0), to(-1), to(len(next)), to(0, math.MaxInt, 0)} {
		if got, e := front.Joins(next, from); e != api.ErrShape || len(got) != 0 {
			t.Errorf("%s: Joins(%v, %v) tells %v, %d; want ErrShape alone", what, next, from, got, e)
		}
	}
}

func wantNoArg(t *testing.T, what string, next [][]int, from []int) {
	t.Helper()
	if got, e := front.Joins(next, from); e != api.ErrArg || len(got) != 0 {
		t.Errorf("%s: Joins(%v, %v) tells %v, %d; want ErrArg alone", what, next, from, got, e)
	}
}

func sameLists(a, b [][]int) bool {
	return slices.EqualFunc(a, b, slices.Equal[[]int])
}

// rises tells whether each number is greater than the one ahead of it.
func rises(l []int) bool {
	for i := 1; i < len(l); i++ {
		if l[i-1] >= l[i] {
			return false
		}
	}
	return true
}

// copied is a list of its own lists.
func copied(l [][]int) [][]int {
	l = slices.Clone(l)
	for i := range l {
		l[i] = slices.Clone(l[i])
	}
	return l
}

// odds are numbers without a pattern, the same ones each time.
type odds uint64

const firstOdd odds = 0x9e3779b97f4a7c15

func (o *odds) number() uint64 {
	w := uint64(*o)
	w ^= w << 13
	w ^= w >> 7
	w ^= w << 17
	*o = odds(w)
	return w * 0x2545f4914f6cdd1d
}

func (o *odds) below(n int) int { return int(o.number() >> 33 % uint64(n)) }

// often tells true about so many times in a hundred.
func (o *odds) often(percent int) bool { return o.below(100) < percent }

func pick[T any](o *odds, l ...T) T { return l[o.below(len(l))] }

func (o *odds) shuffled(n int) []int {
	l := make([]int, n)
	for i := range l {
		j := o.below(i + 1)
		l[i], l[j] = l[j], i
	}
	return l
}

// mixed is a list in another order.
func (o *odds) mixed(l []int) []int {
	var other []int
	for _, i := range o.shuffled(len(l)) {
		other = append(other, l[i])
	}
	return other
}

// anyNet is a net that may be, of some of many sorts: thin and thick ones, such as lead on mostly, such as lead to nodes close by.
func (o *odds) anyNet(most int) [][]int {
	next := make([][]int, 1+o.below(most))
	thick, near, back := pick(o, 1, 2, 3, 5), pick(o, 0, 2, 4), pick(o, 10, 30, 50)
	for i := range next {
		for range o.below(thick + 1) {
			to := o.below(len(next))
			if near > 0 && o.often(90) {
				to = i + 1 + o.below(near)
				if o.often(back) {
					to = i - o.below(near)
				}
				to = min(max(to, 0), len(next)-1)
			}
			next[i] = append(next[i], to)
		}
	}
	return next
}

// metNet is a net of which most nodes are reached.
func (o *odds) metNet(most int) [][]int {
	next := o.anyNet(most)
	for i := range len(next) - 1 {
		if o.often(60) {
			from := o.below(i + 1)
			next[from] = append(next[from], i+1)
		}
		if len(next[i]) == 0 && o.often(95) {
			next[i] = to(i + 1)
		}
	}
	return next
}

// anyFrom is some nodes, few or many, some of them twice.
func (o *odds) anyFrom(nodes int) []int {
	var from []int
	for range o.below(pick(o, 2, 3, 5, nodes+1)) {
		from = append(from, o.below(nodes))
	}
	return from
}

// renamed is a net whose nodes but the entry have other numbers, and whose edges stand in another order: names[i] is what i was, now[i] what it is.
func (o *odds) renamed(next [][]int) (other [][]int, names, now []int) {
	names = []int{0}
	for _, i := range o.shuffled(len(next) - 1) {
		names = append(names, i+1)
	}
	now = make([]int, len(next))
	for i, was := range names {
		now[was] = i
	}
	other = make([][]int, len(next))
	for i, was := range names {
		other[i] = by(now, o.mixed(next[was]))
	}
	return other, names, now
}

// by is what stands at some places of a list.
func by(list, places []int) []int {
	var l []int
	for _, i := range places {
		l = append(l, list[i])
	}
	return l
}

// sorted is a list in rising order.
func sorted(l []int) []int {
	l = slices.Clone(l)
	slices.Sort(l)
	return l
}
