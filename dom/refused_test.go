package dom_test

import (
	"slices"
	"testing"

	"smithy/api"
	"smithy/dom"
)

func TestNoNode(t *testing.T) {
	wantNone(t, "none", nil)
	wantNone(t, "an empty list", [][]int{})
	wantNone(t, "an empty list with spare room", net(to(0))[:0])
}

// What is no node may stand nowhere: not first, not last, not among the edges of nodes that are not reached.
func TestNamesOfNoNode(t *testing.T) {
	nets := [][][]int{net(nil), net(to(0)), example(), net(to(1, 1), nil, to(0, 1, 2)), net(nil, to(2), to(1))}
	for _, next := range nets {
		for i := range next {
			for place := range len(next[i]) + 1 {
				for _, stray := range strays(len(next)) {
					wrong := copied(next)
					wrong[i] = slices.Insert(wrong[i], place, stray)
					wantNone(t, "one stray", wrong)
				}
			}
		}
		if _, e := dom.Tree(next); e != api.OK {
			t.Errorf("%v is refused: %d", next, e)
		}
	}
}

// The greatest place may be named, the one behind it may not, whatever spare room there is.
func TestSpareRoomIsNoNode(t *testing.T) {
	next := net(to(1), to(2), to(0))
	wantTree(t, "three", next, -1, 0, 1)
	wantNone(t, "two of three", next[:2])
	edges := to(0, 9)
	wantTree(t, "a stray in the spare room", net(edges[:1]), -1)
}

func TestStraysOfMadeNets(t *testing.T) {
	o := firstOdd
	for range 3000 {
		next := o.anyNet(12)
		if _, e := dom.Tree(next); e != api.OK {
			t.Fatalf("%v is refused: %d", next, e)
		}
		i := o.below(len(next))
		next[i] = slices.Insert(next[i], o.below(len(next[i])+1), pick(&o, strays(len(next))...))
		wantNone(t, "a made net with a stray", next)
	}
}
