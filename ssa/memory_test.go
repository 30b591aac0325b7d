package ssa_test

import (
	"reflect"
	"slices"
	"sync"
	"testing"

	"smithy/api"
	"smithy/ssa"
)

// sameGraph tells whether two graphs are the same, however their lists came to be.
func sameGraph(a, b api.Graph) bool {
	sameIns := func(x, y api.Ins) bool {
		return x.Kind == y.Kind && x.Op == y.Op && x.Dst == y.Dst && x.Bits == y.Bits && x.Ref == y.Ref && slices.Equal(x.Args, y.Args)
	}
	sameBlock := func(x, y api.Block) bool { return x.Term == y.Term && slices.EqualFunc(x.Ins, y.Ins, sameIns) }
	return a.Name == b.Name && a.Result == b.Result && slices.Equal(a.Params, b.Params) && slices.Equal(a.Vars, b.Vars) && slices.Equal(a.Arrays, b.Arrays) && slices.EqualFunc(a.Blocks, b.Blocks, sameBlock)
}

// roomy is a graph of its own whose lists have spare room, filled with what could be told of.
func roomy(g api.Graph) api.Graph {
	g = copied(g)
	for i, b := range g.Blocks {
		for j, x := range b.Ins {
			b.Ins[j].Args = append(x.Args, 1, 2)[:len(x.Args)]
		}
		g.Blocks[i].Ins = append(b.Ins, show(1))[:len(b.Ins)]
	}
	g.Blocks = append(g.Blocks, block(jump(1), show(1)))[:len(g.Blocks)]
	g.Params = append(g.Params, 1)[:len(g.Params)]
	g.Vars = append(g.Vars, api.U8)[:len(g.Vars)]
	g.Arrays = append(g.Arrays, api.Array{Type: api.U8, Size: 1})[:len(g.Arrays)]
	return g
}

func roomyAll(p []api.Graph) []api.Graph {
	var l []api.Graph
	for _, g := range p {
		l = append(l, roomy(g))
	}
	return append(l, plain())[:len(l)]
}

// spread is roomy graphs with their spare room, copied.
func spread(p []api.Graph) []api.Graph {
	all := slices.Clone(p[:len(p)+1])
	for k, g := range p {
		n := len(g.Blocks)
		g.Blocks = slices.Clone(g.Blocks[:n+1])
		for i, b := range g.Blocks[:n] {
			ins := slices.Clone(b.Ins[:len(b.Ins)+1])
			for j, x := range ins[:len(b.Ins)] {
				ins[j].Args = slices.Clone(x.Args[:len(x.Args)+2])
			}
			g.Blocks[i].Ins = ins
		}
		g.Params, g.Vars, g.Arrays = slices.Clone(g.Params[:len(g.Params)+1]), slices.Clone(g.Vars[:len(g.Vars)+1]), slices.Clone(g.Arrays[:len(g.Arrays)+1])
		all[k] = g
	}
	return all
}

// some is a program and a place: bent, or with no such graph, now and then.
func (m *maker) some() ([]api.Graph, int) {
	p, f := m.program()
	switch m.below(6) {
	case 0:
		m.bend(&p[f])
	case 1:
		f = m.below(len(p)+2) - 1
	case 2:
		return []api.Graph{m.truths(1+m.below(20), 1+m.below(150), pick(&m.odds, 10, 50))}, 0
	}
	return p, f
}

func TestNothingHandedInIsChanged(t *testing.T) {
	m := maker{odds: firstOdd}
	refused := 0
	for range 3000 {
		p, f := m.some()
		p = roomyAll(p)
		was := spread(p)
		g, e := ssa.Build(p, f)
		is := ssa.Is(g)
		if e != api.OK {
			refused++
		}
		var once []bool
		for _, g := range p {
			once = append(once, ssa.Is(g))
		}
		if !reflect.DeepEqual(spread(p), was) {
			t.Fatalf("%v has become %v", was, spread(p))
		}
		// Spare room plays no part.
		if h, d := ssa.Build(copiedAll(p), f); d != e || !sameGraph(g, h) || ssa.Is(roomy(h)) != is {
			t.Fatalf("%v, %d is told otherwise without spare room", p, f)
		}
		for i, g := range p {
			if ssa.Is(copied(g)) != once[i] {
				t.Fatalf("%v is told otherwise without spare room", g)
			}
		}
	}
	if refused < 200 {
		t.Errorf("%d were refused", refused)
	}
}

// numbers are all lists of numbers of graphs.
func numbers(p ...api.Graph) [][]int {
	var l [][]int
	for _, g := range p {
		l = append(l, g.Params)
		for _, b := range g.Blocks {
			for _, x := range b.Ins {
				l = append(l, x.Args)
			}
		}
	}
	return l
}

// wantApart fills each list, its spare room too, with a number of its own, and asks that each still has its own behind that.
func wantApart(t *testing.T, what string, lists [][]int) {
	t.Helper()
	for i, l := range lists {
		for j := range l[:cap(l)] {
			l[:cap(l)][j] = -1000 - i
		}
	}
	for i, l := range lists {
		if slices.ContainsFunc(l[:cap(l)], func(n int) bool { return n != -1000-i }) {
			t.Fatalf("%s: two lists share memory", what)
		}
	}
}

// wantInsApart does so with lists of instructions.
func wantInsApart(t *testing.T, p ...api.Graph) {
	t.Helper()
	var lists [][]api.Ins
	for _, g := range p {
		for _, b := range g.Blocks {
			lists = append(lists, b.Ins[:cap(b.Ins)])
		}
	}
	for i, l := range lists {
		for j := range l {
			l[j] = api.Ins{Ref: i}
		}
	}
	for i, l := range lists {
		if slices.ContainsFunc(l, func(x api.Ins) bool { return x.Ref != i }) {
			t.Fatalf("two lists of instructions share memory")
		}
	}
}

// What is handed out is new: who changes it changes neither what was handed in, nor another answer, nor another list of this one.
func TestWhatIsHandedOutIsNew(t *testing.T) {
	m := maker{odds: firstOdd}
	for range 1500 {
		p, f := m.program()
		p = roomyAll(p)
		was := spread(p)
		g, e := ssa.Build(p, f)
		h, d := ssa.Build(p, f)
		if e != api.OK || d != api.OK || !sameGraph(g, h) {
			t.Fatalf("%v, %d: %v and %v, %d, %d", p, f, g, h, e, d)
		}
		kept := copied(g)
		wantApart(t, "what was built", numbers(h))
		wantInsApart(t, h)
		clear(h.Blocks[:cap(h.Blocks)])
		clear(h.Vars[:cap(h.Vars)])
		clear(h.Arrays[:cap(h.Arrays)])
		if !reflect.DeepEqual(spread(p), was) || !sameGraph(g, kept) {
			t.Fatalf("%v: other lists have changed", p)
		}
		all := append(slices.Clone(p), g)
		wantApart(t, "all lists", numbers(all...))
		wantInsApart(t, all...)
	}
}

// An answer hangs on what is handed in alone: not on what was asked before, nor on what is asked beside it, nor on the order in which a map is gone through.
func TestSameAnswerEachTime(t *testing.T) {
	m := maker{odds: firstOdd}
	var graphs, want []api.Graph
	for range 200 {
		g := m.truths(1+m.below(40), 1+m.below(200), pick(&m.odds, 10, 50))
		h, _ := ssa.Build([]api.Graph{g}, 0)
		graphs, want = append(graphs, g), append(want, h)
	}
	var wait sync.WaitGroup
	for range 4 {
		wait.Go(func() {
			for i, g := range graphs {
				ssa.Build([]api.Graph{plain()}, 1)
				if h, e := ssa.Build([]api.Graph{g}, 0); e != api.OK || !sameGraph(h, want[i]) || !ssa.Is(h) {
					t.Errorf("%v is built otherwise another time", g)
				}
			}
		})
	}
	wait.Wait()
}
