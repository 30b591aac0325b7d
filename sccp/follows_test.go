package sccp_test

import (
	"slices"
	"testing"

	"smithy/api"
	"smithy/run"
	"smithy/sccp"
)

// P14.4: what the least facts make of themselves is just these.
func TestLeastFactsMakeThemselves(t *testing.T) {
	m := maker{odds: firstOdd}
	for range 4000 {
		p, f := m.program()
		if x, e := sccp.Solve(p, f); e != api.OK || !sameFacts(makes(p[f], x), x) {
			t.Fatalf("%v make %v of %v", x, makes(p[f], x), p[f])
		}
	}
}

// silent is a graph that shows nothing.
func silent(g api.Graph) api.Graph {
	g = copied(g)
	for i, b := range g.Blocks {
		g.Blocks[i].Ins = slices.DeleteFunc(b.Ins, func(x api.Ins) bool { return x.Kind == api.InsPrint })
	}
	return g
}

// watched is a graph that shows nothing but which of its blocks is entered, and which of its variables is set, and to what: a block by twice its number, a variable by twice its number and one, behind which its word is shown.
func watched(g api.Graph) api.Graph {
	g = silent(g)
	mark := len(g.Vars)
	g.Vars = append(g.Vars, api.I64)
	telling := func(v int) []api.Ins { return []api.Ins{number(mark, uint64(2*v+1)), show(mark), show(v)} }
	for i, b := range g.Blocks {
		n := phisOf(b)
		l := append(slices.Clone(b.Ins[:n]), number(mark, uint64(2*i)), show(mark))
		for _, x := range b.Ins[:n] {
			l = append(l, telling(x.Dst)...)
		}
		if i == 0 {
			for _, v := range g.Params {
				l = append(l, telling(v)...)
			}
		}
		for _, x := range b.Ins[n:] {
			if l = append(l, x); sets(x) {
				l = append(l, telling(x.Dst)...)
			}
		}
		g.Blocks[i].Ins = l
	}
	return g
}

func phisOf(b api.Block) int {
	n := 0
	for n < len(b.Ins) && b.Ins[n].Kind == api.InsPhi {
		n++
	}
	return n
}

// watchedIn is a program whose graph at f is watched, all others being silent.
func watchedIn(p []api.Graph, f int) []api.Graph {
	var q []api.Graph
	for i, g := range p {
		if i == f {
			q = append(q, watched(g))
		} else {
			q = append(q, silent(g))
		}
	}
	return q
}

// wantTrue asks that what a run of a watched graph showed is as facts say; it tells how often something that is Known was set.
func wantTrue(t *testing.T, g api.Graph, x api.Facts, shows []api.Show) int {
	t.Helper()
	known := 0
	for ; len(shows) > 0; shows = shows[1:] {
		at := int(shows[0].Bits / 2)
		if shows[0].Bits%2 == 0 {
			if !x.Reached[at] {
				t.Fatalf("%v: %v is entered, by %v not", g, at, x)
			}
			continue
		}
		shows = shows[1:]
		if len(shows) == 0 {
			break
		}
		cell := x.Cells[at]
		if cell == unseen || cell.Kind == api.Known && cell.Bits != shows[0].Bits {
			t.Fatalf("%v: %d is set to %d, by the facts it is %v", g, at, shows[0].Bits, cell)
		}
		if cell.Kind == api.Known {
			known++
		}
	}
	return known
}

// P14.4: in no run a block is entered that is not reached, or a variable set that is Unseen, or one that is Known to something else: by the least facts, and by others that hold.
func TestFactsAreTrueOfRuns(t *testing.T) {
	m := maker{odds: firstOdd}
	knowns, ended := 0, 0
	for range 2500 {
		p, f := m.program()
		lowest := wantSolved(t, "a made program", p, f)
		higher := copiedFacts(lowest)
		for range 3 {
			m.bendFacts(p[f], &higher)
		}
		higher = above(p[f], higher)
		q := watchedIn(p, f)
		for from := range p {
			for _, seed := range []uint64{0, 1, 0x923456789abcdef3, m.number()} {
				trace, e := run.Run(q, from, wordsFor(p[from], seed), 60, 4)
				if e != api.OK {
					t.Fatalf("%v, %d: %d", q, from, e)
				}
				knowns += wantTrue(t, p[f], lowest, trace.Shows)
				wantTrue(t, p[f], higher, trace.Shows)
				if trace.End == api.Told || trace.End == api.Trapped {
					ended++
				}
			}
		}
	}
	if knowns < 50000 || ended < 5000 {
		t.Errorf("%d times what is Known was set, %d runs ended", knowns, ended)
	}
}

// P14.4: facts hang neither on the order of blocks nor on the names of variables.
func TestBlocksRenumberedAndVariablesRenamed(t *testing.T) {
	m := maker{odds: firstOdd}
	for range 4000 {
		p, f := m.program()
		x := wantSolved(t, "as it was", p, f)
		blocks, vars := m.shuffledBlocks(len(p[f].Blocks)), m.shuffled(len(p[f].Vars))
		q := slices.Clone(p)
		q[f] = renamed(p[f], blocks, vars)
		y := wantSolved(t, "by other numbers", q, f)
		if !sameFacts(y, renamedFacts(x, blocks, vars)) {
			t.Fatalf("%v has %v; as %v it has %v", p[f], x, q[f], y)
		}
	}
}

// What other graphs do plays no part, as long as they are right.
func TestOthersPlayNoPart(t *testing.T) {
	m := maker{odds: firstOdd}
	for range 1000 {
		p, f := m.program()
		x := wantSolved(t, "beside others", p, f)
		other := copiedAll(p)
		for i := range other {
			if i != f {
				other[i].Blocks = []api.Block{block(trap(1))}
			}
		}
		if y, e := sccp.Solve(other, f); e != api.OK || !sameFacts(x, y) || !sccp.Holds(other, f, x) {
			t.Fatalf("%v has %v; beside others %v, %d", p[f], x, y, e)
		}
	}
}
