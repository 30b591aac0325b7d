package graph_test

import (
	"slices"
	"testing"

	"smithy/api"
	"smithy/graph"
)

// Right programs, and what is one change away from them, are told as the second way tells them.
func TestChecksAsTheSecondWay(t *testing.T) {
	m := maker{odds: firstOdd}
	right, wrong := 0, 0
	for range 6000 {
		p := m.program()
		wantRight(t, "a made program", p...)
		for range 1 + m.below(2) {
			m.bend(p)
		}
		e, at := graph.Check(p)
		if want, place := slowCheck(p); e != want || at != place {
			t.Fatalf("%v: Check tells %d, %d; want %d, %d", p, e, at, want, place)
		}
		if e == api.OK {
			right++
		} else {
			wrong++
		}
		for _, g := range p {
			for _, b := range g.Blocks {
				for _, x := range b.Ins {
					wantTypeAsSlow(t, p, g, x)
				}
			}
		}
		if t.Failed() {
			t.FailNow()
		}
	}
	if right < 500 || wrong < 2000 {
		t.Errorf("%d were right, %d were not", right, wrong)
	}
}

func wantTypeAsSlow(t *testing.T, p []api.Graph, g api.Graph, x api.Ins) {
	t.Helper()
	if want, ok := slowType(p, g, x); ok {
		wantStands(t, p, g, want, x)
	} else {
		wantNotStands(t, p, g, x)
	}
}

// Any instruction in any graph of any program.
func TestTypesOfAnyInstruction(t *testing.T) {
	m := maker{odds: firstOdd}
	may := 0
	for range 60000 {
		p := []api.Graph{m.junk(), pick(&m.odds, m.head(), m.junk()), m.head()}
		g, x := p[m.below(3)], m.junkIns()
		// So that more than a few may stand.
		x.Kind = api.InsKind(m.below(12))
		if m.often(95) {
			x.Bits = 0
		}
		if x.Kind != api.InsOp {
			x.Op = 0
		}
		if m.often(50) {
			x.Dst, x.Ref, x.Args = m.below(2), m.below(2), x.Args[:min(len(x.Args), 1)]
		}
		wantTypeAsSlow(t, p, g, x)
		if _, ok := graph.Type(p, g, x); ok {
			may++
		}
		e, at := slowCheck(p)
		wantCheck(t, "any program", e, at, p...)
		if t.Failed() {
			t.FailNow()
		}
	}
	if may < 1000 {
		t.Errorf("%d may stand", may)
	}
}

// P7.5: of a right program each graph's Trim is right in its place, and has nothing more to be trimmed.
func TestTrimOfRightGraphs(t *testing.T) {
	m := maker{odds: firstOdd}
	less := 0
	for range 4000 {
		p := m.program()
		all := copiedAll(p)
		for i, g := range p {
			h := graph.Trim(g)
			all[i] = h
			alone := copiedAll(p)
			alone[i] = h
			wantRight(t, "one is trimmed", alone...)
			wantList(t, "Order behind Trim", graph.Order(h), rising(len(h.Blocks))...)
			wantTrim(t, "Trim again", h, h)
			if !same(h, slowTrim(g)) {
				t.Errorf("Trim of %v: %v; want %v", g, h, slowTrim(g))
			}
			if len(h.Blocks) < len(g.Blocks) {
				less++
			}
		}
		wantRight(t, "all are trimmed", all...)
		if t.Failed() {
			t.Fatalf("%v", p)
		}
	}
	if less < 1000 {
		t.Errorf("%d graphs have become less", less)
	}
}

// P7.5: Next and Ahead say the same edges.
func TestNextAndAheadSayTheSame(t *testing.T) {
	m := maker{odds: firstOdd}
	for range 4000 {
		for _, g := range append(m.program(), m.junk()) {
			ahead := graph.Ahead(g)
			if len(ahead) != len(g.Blocks) {
				t.Fatalf("Ahead of %v: %v", g, ahead)
			}
			for from, b := range g.Blocks {
				next := graph.Next(b)
				for to := range g.Blocks {
					if slices.Contains(next, to) != slices.Contains(ahead[to], from) {
						t.Fatalf("%v: Next of %d is %v, Ahead of %d is %v", g, from, next, to, ahead[to])
					}
				}
			}
		}
	}
}
