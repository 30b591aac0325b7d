package front_test

import (
	"slices"
	"testing"

	"smithy/api"
	"smithy/front"
)

func TestNoNode(t *testing.T) {
	wantNoNet(t, "none", nil)
	wantNoNet(t, "an empty list", [][]int{})
	wantNoNet(t, "an empty list with spare room", net(to(0))[:0])
}

// What is no node may stand nowhere: not first, not last, not among the edges of nodes that are not reached.
func TestNamesOfNoNode(t *testing.T) {
	nets := [][][]int{net(nil), net(to(0)), example(), net(to(1, 1), nil, to(0, 1, 2)), net(nil, to(2), to(1))}
	for _, next := range nets {
		for i := range next {
			for place := range len(next[i]) + 1 {
				for _, stray := range strays(len(next)) {
					wrong := copied(next)
					wrong[i] = slices.Insert(wrong[i], place, stray)
					wantNoNet(t, "one stray", wrong)
				}
			}
		}
		if _, e := front.Fronts(next); e != api.OK {
			t.Errorf("%v is refused: %d", next, e)
		}
	}
}

// The greatest node may be named, the one behind it may not, whatever spare room there is.
func TestSpareRoomIsNoNode(t *testing.T) {
	next := net(to(1), to(2), to(0))
	wantFronts(t, "three", next, to(0), to(0), to(0))
	wantJoins(t, "three", next, to(2), 0)
	wantNoNet(t, "two of three", next[:2])
	wantNoArg(t, "a node in the spare room", net(to(0), to(1), nil)[:2], to(2))
	edges := to(0, 9)
	wantFronts(t, "a stray in the spare room", net(edges[:1]), to(0))
	wantJoins(t, "strays in both spare rooms", net(edges[:1]), edges[:1], 0)
}

// What is no node may not stand among those to begin with: not first, not last, not beside such as have no joins.
func TestNoNodesToBeginWith(t *testing.T) {
	for _, next := range [][][]int{net(nil), net(to(0)), example(), net(nil, to(0))} {
		rows := [][]int{nil, to(0), to(0, 0), to(len(next) - 1), to(0, len(next)-1, 0, len(next)-1)}
		for _, from := range rows {
			if _, e := front.Joins(next, from); e != api.OK {
				t.Errorf("Joins(%v, %v) is refused: %d", next, from, e)
			}
			for place := range len(from) + 1 {
				for _, stray := range strays(len(next)) {
					wantNoArg(t, "one stray", next, slices.Insert(slices.Clone(from), place, stray))
				}
			}
		}
		for _, stray := range strays(len(next)) {
			wantNoArg(t, "strays alone", next, to(stray, stray, -7))
		}
	}
}

func TestStraysOfMadeNets(t *testing.T) {
	o := firstOdd
	for range 3000 {
		next := o.anyNet(12)
		from := o.anyFrom(len(next))
		if _, e := front.Joins(next, from); e != api.OK {
			t.Fatalf("Joins(%v, %v) is refused: %d", next, from, e)
		}
		from = slices.Insert(from, o.below(len(from)+1), pick(&o, strays(len(next))...))
		wantNoArg(t, "a made net, a stray to begin with", next, from)
		i := o.below(len(next))
		next[i] = slices.Insert(next[i], o.below(len(next[i])+1), pick(&o, strays(len(next))...))
		wantNoNet(t, "a made net with a stray", next)
		if got, e := front.Joins(next, from); e != api.ErrShape || len(got) != 0 {
			t.Fatalf("Joins(%v, %v) tells %v, %d; want ErrShape alone", next, from, got, e)
		}
	}
}
