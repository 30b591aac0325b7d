package sccp_test

import (
	"reflect"
	"slices"
	"sync"
	"testing"

	"smithy/api"
	"smithy/sccp"
)

// roomy is a graph of its own whose lists have spare room, filled with what could be told of.
func roomy(g api.Graph) api.Graph {
	g = copied(g)
	for i, b := range g.Blocks {
		for j, x := range b.Ins {
			b.Ins[j].Args = append(x.Args, 1, 2)[:len(x.Args)]
		}
		g.Blocks[i].Ins = append(b.Ins, show(1))[:len(b.Ins)]
	}
	g.Blocks = append(g.Blocks, block(jump(1), show(1)))[:len(g.Blocks)]
	g.Params = append(g.Params, 1)[:len(g.Params)]
	g.Vars = append(g.Vars, api.U8)[:len(g.Vars)]
	g.Arrays = append(g.Arrays, api.Array{Type: api.U8, Size: 1})[:len(g.Arrays)]
	return g
}

func roomyAll(p []api.Graph) []api.Graph {
	var l []api.Graph
	for _, g := range p {
		l = append(l, roomy(g))
	}
	return append(l, once())[:len(l)]
}

// spread is roomy graphs with their spare room, copied.
func spread(p []api.Graph) []api.Graph {
	all := slices.Clone(p[:len(p)+1])
	for k, g := range p {
		n := len(g.Blocks)
		g.Blocks = slices.Clone(g.Blocks[:n+1])
		for i, b := range g.Blocks[:n] {
			ins := slices.Clone(b.Ins[:len(b.Ins)+1])
			for j, x := range ins[:len(b.Ins)] {
				ins[j].Args = slices.Clone(x.Args[:len(x.Args)+2])
			}
			g.Blocks[i].Ins = ins
		}
		g.Params, g.Vars, g.Arrays = slices.Clone(g.Params[:len(g.Params)+1]), slices.Clone(g.Vars[:len(g.Vars)+1]), slices.Clone(g.Arrays[:len(g.Arrays)+1])
		all[k] = g
	}
	return all
}

// roomyFacts is facts of their own with spare room, spreadFacts these with that, copied.
func roomyFacts(x api.Facts) api.Facts {
	x = copiedFacts(x)
	x.Cells = append(x.Cells, known(3))[:len(x.Cells)]
	x.Reached = append(x.Reached, true)[:len(x.Reached)]
	x.Edges = append(x.Edges, [2]bool{true, true})[:len(x.Edges)]
	return x
}

func spreadFacts(x api.Facts) api.Facts {
	return copiedFacts(api.Facts{Cells: x.Cells[:len(x.Cells)+1], Reached: x.Reached[:len(x.Reached)+1], Edges: x.Edges[:len(x.Edges)+1]})
}

func TestNothingHandedInIsChanged(t *testing.T) {
	m := maker{odds: firstOdd}
	refused := 0
	for range 3000 {
		p, f := m.program()
		if m.often(30) {
			m.bend(&p[f])
		}
		if m.often(10) {
			f = m.below(len(p)+2) - 1
		}
		p = roomyAll(p)
		was := spread(p)
		x, e := sccp.Solve(p, f)
		if e != api.OK {
			refused++
		}
		y := roomyFacts(x)
		if e == api.OK && m.often(50) {
			m.bendFacts(p[f], &y)
		}
		facts := spreadFacts(y)
		holds := sccp.Holds(p, f, y)
		if !reflect.DeepEqual(spread(p), was) || !reflect.DeepEqual(spreadFacts(y), facts) {
			t.Fatalf("%v, %v has become %v, %v", was, facts, spread(p), spreadFacts(y))
		}
		// Spare room plays no part.
		z, d := sccp.Solve(copiedAll(p), f)
		if d != e || !sameFacts(x, z) || sccp.Holds(copiedAll(p), f, copiedFacts(y)) != holds {
			t.Fatalf("%v, %d is told otherwise without spare room", p, f)
		}
	}
	if refused < 200 {
		t.Errorf("%d were refused", refused)
	}
}

// What is handed out is new: who changes it, its spare room too, changes neither what was handed in nor another answer.
func TestWhatIsHandedOutIsNew(t *testing.T) {
	m := maker{odds: firstOdd}
	for range 1500 {
		p, f := m.program()
		p = roomyAll(p)
		was := spread(p)
		x, _ := sccp.Solve(p, f)
		kept := copiedFacts(x)
		y, e := sccp.Solve(p, f)
		if e != api.OK || !sameFacts(x, y) {
			t.Fatalf("%v, %d: %v and %v, %d", p, f, x, y, e)
		}
		for i := range y.Cells[:cap(y.Cells)] {
			y.Cells[:cap(y.Cells)][i] = api.Cell{Kind: 9, Bits: 9}
		}
		for i, is := range y.Reached[:cap(y.Reached)] {
			y.Reached[:cap(y.Reached)][i] = !is
		}
		for i, two := range y.Edges[:cap(y.Edges)] {
			y.Edges[:cap(y.Edges)][i] = [2]bool{!two[0], !two[1]}
		}
		if z, _ := sccp.Solve(p, f); !reflect.DeepEqual(spread(p), was) || !sameFacts(x, kept) || !sameFacts(z, kept) {
			t.Fatalf("%v: other lists have changed", p)
		}
	}
}

// Facts that were handed in may change behind that: nothing is kept of them.
func TestNothingIsKept(t *testing.T) {
	p, x := []api.Graph{fork()}, leastOfFork()
	for range 3 {
		if !sccp.Holds(p, 0, x) {
			t.Fatalf("%v do not hold", x)
		}
		x.Cells[1] = known(0)
		if sccp.Holds(p, 0, x) {
			t.Fatalf("%v hold", x)
		}
		x.Cells[1] = known(1)
		p[0].Blocks[0].Ins[0].Bits = 0
		if sccp.Holds(p, 0, x) {
			t.Fatalf("%v hold of %v", x, p)
		}
		p[0].Blocks[0].Ins[0].Bits = 1
	}
}

// An answer hangs on what is handed in alone: not on what was asked before, nor on what is asked beside it.
func TestSameAnswerEachTime(t *testing.T) {
	m := maker{odds: firstOdd}
	type asked struct {
		p    []api.Graph
		f    int
		want api.Facts
	}
	var l []asked
	for range 300 {
		p, f := m.program()
		x, _ := sccp.Solve(p, f)
		l = append(l, asked{p, f, x})
	}
	var wait sync.WaitGroup
	for range 4 {
		wait.Go(func() {
			for _, a := range l {
				sccp.Solve([]api.Graph{once()}, 1)
				if x, e := sccp.Solve(a.p, a.f); e != api.OK || !sameFacts(x, a.want) || !sccp.Holds(a.p, a.f, a.want) {
					t.Errorf("%v, %d is told otherwise another time", a.p, a.f)
				}
			}
		})
	}
	wait.Wait()
}
