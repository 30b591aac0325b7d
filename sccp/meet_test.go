package sccp_test

import (
	"math"
	"testing"

	"smithy/api"
	"smithy/sccp"
)

// wantMeet asks for the meet of two cells, on both sides.
func wantMeet(t *testing.T, a, b, want api.Cell) {
	t.Helper()
	if got := sccp.Meet(a, b); got != want {
		t.Errorf("Meet(%v, %v) tells %v; want %v", a, b, got, want)
	}
	if got := sccp.Meet(b, a); got != want {
		t.Errorf("Meet(%v, %v) tells %v; want %v", b, a, got, want)
	}
}

func TestMeetOfKinds(t *testing.T) {
	wantMeet(t, unseen, unseen, unseen)
	wantMeet(t, unseen, varying, varying)
	wantMeet(t, varying, varying, varying)
	for _, w := range []uint64{0, 1, 2, 255, 1 << 31, 1 << 63, math.MaxUint64, nan, minusNought} {
		wantMeet(t, unseen, known(w), known(w))
		wantMeet(t, known(w), known(w), known(w))
		wantMeet(t, known(w), varying, varying)
		wantMeet(t, known(w), known(w+1), varying)
		wantMeet(t, known(w), known(^w), varying)
		wantMeet(t, known(w), known(w^1<<63), varying)
	}
	wantMeet(t, known(0), known(minusNought), varying)
}

// Bits say nothing but beside Known.
func TestMeetOfIdleBits(t *testing.T) {
	for _, w := range []uint64{1, 9, 1 << 63, math.MaxUint64} {
		idle, wild := api.Cell{Bits: w}, api.Cell{Kind: api.Varying, Bits: w}
		wantMeet(t, idle, unseen, unseen)
		wantMeet(t, idle, idle, unseen)
		wantMeet(t, idle, api.Cell{Bits: w + 1}, unseen)
		wantMeet(t, idle, known(w), known(w))
		wantMeet(t, idle, known(7), known(7))
		wantMeet(t, idle, varying, varying)
		wantMeet(t, idle, wild, varying)
		wantMeet(t, wild, unseen, varying)
		wantMeet(t, wild, known(w), varying)
		wantMeet(t, wild, known(7), varying)
		wantMeet(t, wild, varying, varying)
		wantMeet(t, wild, wild, varying)
		wantMeet(t, wild, api.Cell{Kind: api.Varying, Bits: w + 1}, varying)
	}
}

func TestMeetOfKindsThatAreNone(t *testing.T) {
	for kind := api.Varying + 1; kind != 0; kind++ {
		for _, w := range []uint64{0, 1, 9, math.MaxUint64} {
			stray := api.Cell{Kind: kind, Bits: w}
			wantMeet(t, stray, unseen, varying)
			wantMeet(t, stray, api.Cell{Bits: 3}, varying)
			wantMeet(t, stray, known(w), varying)
			wantMeet(t, stray, known(7), varying)
			wantMeet(t, stray, varying, varying)
			wantMeet(t, stray, stray, varying)
			wantMeet(t, stray, api.Cell{Kind: kind + 1 | 4, Bits: w}, varying)
		}
	}
}

// The meet is the least of all cells that neither is above; it hangs neither on sides nor on the order of three.
func TestMeetIsTheLeast(t *testing.T) {
	cells := []api.Cell{unseen, varying, known(0), known(1), known(2), known(nan), known(math.MaxUint64)}
	for _, a := range cells {
		for _, b := range cells {
			m := sccp.Meet(a, b)
			if !isBelow(a, m) || !isBelow(b, m) {
				t.Errorf("Meet(%v, %v) tells %v, which is below one of them", a, b, m)
			}
			for _, c := range cells {
				if isBelow(a, c) && isBelow(b, c) && !isBelow(m, c) {
					t.Errorf("Meet(%v, %v) tells %v; %v is less", a, b, m, c)
				}
				if sccp.Meet(m, c) != sccp.Meet(a, sccp.Meet(b, c)) {
					t.Errorf("of %v, %v and %v it matters which meet first", a, b, c)
				}
			}
		}
	}
}
