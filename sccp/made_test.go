package sccp_test

import (
	"testing"

	"smithy/api"
	"smithy/scalar"
	"smithy/sccp"
)

// tally is how often each kind of thing was met.
type tally struct {
	cells            map[api.CellKind]int
	phis             map[api.CellKind]int // cells of phis that are reached
	idle, oneSided   int                  // blocks that are not reached; branches of which one edge is in the facts
	blocks, branches int
}

func (c *tally) add(g api.Graph, x api.Facts) {
	for _, cell := range x.Cells {
		c.cells[cell.Kind]++
	}
	for i, b := range g.Blocks {
		c.blocks++
		if !x.Reached[i] {
			c.idle++
			continue
		}
		if b.Term.Kind == api.TermBranch {
			c.branches++
			if x.Edges[i][0] != x.Edges[i][1] {
				c.oneSided++
			}
		}
		for _, ins := range b.Ins {
			if ins.Kind == api.InsPhi {
				c.phis[x.Cells[ins.Dst].Kind]++
			}
		}
	}
}

func TestMadePrograms(t *testing.T) {
	m := maker{odds: firstOdd}
	c := tally{cells: map[api.CellKind]int{}, phis: map[api.CellKind]int{}}
	for range 12000 {
		p, f := m.program()
		if !isSetOnceIn(p, f) {
			t.Fatalf("%v, %d is not set once", p, f)
		}
		c.add(p[f], wantSolved(t, "a made program", p, f))
	}
	if c.cells[api.Unseen] < 20000 || c.cells[api.Known] < 20000 || c.cells[api.Varying] < 20000 || c.phis[api.Known] < 3000 || c.phis[api.Varying] < 3000 {
		t.Errorf("cells %v, of phis %v", c.cells, c.phis)
	}
	if c.idle < 5000 || c.oneSided < 3000 || c.branches-c.oneSided < 3000 {
		t.Errorf("%d of %d blocks are not reached, %d of %d branches are known", c.idle, c.blocks, c.oneSided, c.branches)
	}
}

// cell is one of a variable of a type, or now and then none.
func (m *maker) cell(t api.Type) api.Cell {
	switch m.below(20) {
	case 0:
		return api.Cell{Kind: api.CellKind(m.below(5)), Bits: m.number()}
	case 1, 2, 3, 4:
		return unseen
	case 5, 6, 7, 8, 9, 10:
		return known(pick(&m.odds, wordsOf(t)...))
	case 11, 12:
		return known(scalar.Cut(t, m.number()))
	}
	return varying
}

// bendFacts changes one thing of facts.
func (m *maker) bendFacts(g api.Graph, x *api.Facts) {
	i := m.below(len(g.Blocks))
	switch what := m.below(4); {
	case what == 0:
		x.Reached[i] = !x.Reached[i]
	case what == 1:
		side := m.below(2)
		x.Edges[i][side] = !x.Edges[i][side]
	case len(g.Vars) > 0:
		v := m.below(len(g.Vars))
		x.Cells[v] = m.cell(g.Vars[v])
	}
}

// above is facts that hold, above some that have been bent: all that these make of themselves is laid to them.
func above(g api.Graph, x api.Facts) api.Facts {
	x = copiedFacts(x)
	for v, c := range x.Cells {
		if !isCell(g.Vars[v], c) {
			x.Cells[v] = varying
		}
	}
	for !isHolding(g, x) {
		y := makes(g, x)
		for v := range x.Cells {
			x.Cells[v] = joint([]api.Cell{x.Cells[v], y.Cells[v]})
		}
		for i := range x.Reached {
			x.Reached[i] = x.Reached[i] || y.Reached[i]
			x.Edges[i] = [2]bool{x.Edges[i][0] || y.Edges[i][0], x.Edges[i][1] || y.Edges[i][1]}
		}
	}
	return x
}

// Bent facts hold just where the words say so; and whatever holds is not below the least.
func TestBentFacts(t *testing.T) {
	m := maker{odds: firstOdd}
	count := map[bool]int{}
	for range 3000 {
		p, f := m.program()
		g := p[f]
		lowest := wantSolved(t, "a made program", p, f)
		higher := copiedFacts(lowest)
		for range 1 + m.below(4) {
			m.bendFacts(g, &higher)
		}
		higher = above(g, higher)
		if !sccp.Holds(p, f, higher) || !isUnder(lowest, higher) {
			t.Fatalf("%v do not hold of %v", higher, g)
		}
		for k, x := range []api.Facts{lowest, lowest, higher, higher, highest(g)} {
			x = copiedFacts(x)
			for range 1 + k%2 {
				m.bendFacts(g, &x)
			}
			want := isHolding(g, x)
			if got := sccp.Holds(p, f, x); got != want {
				t.Fatalf("Holds of %v, %v tells %v", g, x, got)
			}
			if want && !isUnder(lowest, x) {
				t.Fatalf("%v are not the least of %v: %v hold", lowest, g, x)
			}
			count[want]++
		}
	}
	if count[true] < 2000 || count[false] < 2000 {
		t.Errorf("%v", count)
	}
}
