package graph_test

import (
	"reflect"
	"slices"
	"sync"
	"testing"

	"smithy/api"
	"smithy/graph"
)

// roomy is a graph of its own whose lists have spare room, filled with what could be told of.
func roomy(g api.Graph) api.Graph {
	g = copied(g)
	for i, b := range g.Blocks {
		for j, x := range b.Ins {
			b.Ins[j].Args = append(x.Args, 1, 2)[:len(x.Args)]
		}
		g.Blocks[i].Ins = append(b.Ins, show(1))[:len(b.Ins)]
	}
	g.Blocks = append(g.Blocks, api.Block{Term: jump(1)})[:len(g.Blocks)]
	g.Params = append(g.Params, 1)[:len(g.Params)]
	g.Vars = append(g.Vars, api.U8)[:len(g.Vars)]
	g.Arrays = append(g.Arrays, api.Array{Type: api.U8, Size: 1})[:len(g.Arrays)]
	return g
}

// spread is a roomy graph with its spare room, copied.
func spread(g api.Graph) api.Graph {
	n := len(g.Blocks)
	g.Blocks = slices.Clone(g.Blocks[:n+1])
	for i, b := range g.Blocks[:n] {
		ins := slices.Clone(b.Ins[:len(b.Ins)+1])
		for j, x := range ins[:len(b.Ins)] {
			ins[j].Args = slices.Clone(x.Args[:len(x.Args)+2])
		}
		g.Blocks[i].Ins = ins
	}
	g.Params, g.Vars, g.Arrays = slices.Clone(g.Params[:len(g.Params)+1]), slices.Clone(g.Vars[:len(g.Vars)+1]), slices.Clone(g.Arrays[:len(g.Arrays)+1])
	return g
}

// askAll asks each of the package's functions something of a program.
func askAll(p []api.Graph) (all []any) {
	e, at := graph.Check(p)
	all = append(all, e, at)
	for _, g := range p {
		all = append(all, graph.Ahead(g), graph.Order(g), graph.Trim(g), graph.Count(g))
		for _, b := range g.Blocks {
			all = append(all, graph.Next(b))
			for _, x := range b.Ins {
				t, ok := graph.Type(p, g, x)
				all = append(all, t, ok)
			}
		}
	}
	return all
}

func TestNothingHandedInIsChanged(t *testing.T) {
	m := maker{odds: firstOdd}
	for range 500 {
		p := append(m.program(), m.junk(), example(0, 2, 2))
		var was []api.Graph
		for i := range p {
			p[i] = roomy(p[i])
			was = append(was, spread(p[i]))
		}
		p = append(p, host())[:len(p)]
		first := askAll(p)
		for i := range p {
			if !reflect.DeepEqual(spread(p[i]), was[i]) {
				t.Fatalf("%v has become %v", was[i], spread(p[i]))
			}
		}
		if !same(p[:len(p)+1][len(p)], host()) {
			t.Fatal("the program's spare room has changed")
		}
		// Spare room plays no part.
		if !reflect.DeepEqual(first, askAll(copiedAll(p))) {
			t.Fatalf("%v is told otherwise without spare room", p)
		}
	}
}

// numbers are all lists of numbers of a graph.
func numbers(g api.Graph) [][]int {
	l := [][]int{g.Params}
	for _, b := range g.Blocks {
		for _, x := range b.Ins {
			l = append(l, x.Args)
		}
	}
	return l
}

// wantApart fills each list, its spare room too, with a number of its own, and asks that each still has its own behind that.
func wantApart(t *testing.T, what string, lists [][]int) {
	t.Helper()
	for i, l := range lists {
		for j := range l[:cap(l)] {
			l[:cap(l)][j] = -1000 - i
		}
	}
	for i, l := range lists {
		if slices.ContainsFunc(l[:cap(l)], func(n int) bool { return n != -1000-i }) {
			t.Fatalf("%s: two lists share memory", what)
		}
	}
}

// ruin changes all that a graph holds, spare room too.
func ruin(g api.Graph) {
	for _, b := range g.Blocks {
		for i := range b.Ins[:cap(b.Ins)] {
			b.Ins[:cap(b.Ins)][i] = api.Ins{Kind: 77}
		}
	}
	for i := range g.Blocks[:cap(g.Blocks)] {
		g.Blocks[:cap(g.Blocks)][i] = api.Block{Term: trap(77)}
	}
	for i := range g.Vars[:cap(g.Vars)] {
		g.Vars[:cap(g.Vars)][i] = 77
	}
	for i := range g.Arrays[:cap(g.Arrays)] {
		g.Arrays[:cap(g.Arrays)][i].Size = 77
	}
}

// What is handed out is new: who changes it changes neither what was handed in, nor another answer, nor another list of this one.
func TestWhatIsHandedOutIsNew(t *testing.T) {
	m := maker{odds: firstOdd}
	for range 500 {
		for _, g := range append(m.program(), m.junk(), example(0, 2, 2), crossed(phi(1, 2, 3, 4, 5))) {
			g = roomy(g)
			was := spread(g)
			other, ahead, order := graph.Trim(g), graph.Ahead(g), graph.Order(g)
			h := graph.Trim(g)
			wantApart(t, "Trim", numbers(h))
			ruin(h)
			wantApart(t, "Ahead, Order, Next", append(nexts(g), append(graph.Ahead(g), graph.Order(g))...))
			if !reflect.DeepEqual(spread(g), was) {
				t.Fatalf("%v has become %v", was, spread(g))
			}
			if !same(other, graph.Trim(g)) || !sameLists(ahead, graph.Ahead(g)) || !slices.Equal(order, graph.Order(g)) {
				t.Fatalf("other answers of %v have changed", g)
			}
		}
	}
}

func nexts(g api.Graph) [][]int {
	var l [][]int
	for _, b := range g.Blocks {
		l = append(l, graph.Next(b))
	}
	return l
}

// Lists that share memory where they are handed in share none where they are handed out.
func TestSharedListsComeApart(t *testing.T) {
	args := []int{1, 2, 3, 4, 5, 6}
	ins := []api.Ins{phi(1, args...), {Kind: api.InsPhi, Dst: 2, Args: args}, {Kind: api.InsCall, Args: args}, {Kind: api.InsCall, Args: args[:3]}}
	g := api.Graph{Params: args, Vars: slices.Clone(types), Blocks: []api.Block{{Ins: ins, Term: fork(1, 2)}, {Ins: ins, Term: jump(2)}, {Ins: ins[:3], Term: jump(2)}}}
	ins[0].Args = args
	h := graph.Trim(g)
	want := graph.Trim(copied(g))
	if !same(h, want) {
		t.Fatalf("%v; want %v", h, want)
	}
	h.Blocks[1].Ins[2].Kind = 99
	if h.Blocks[0].Ins[2].Kind != api.InsCall || h.Blocks[2].Ins[2].Kind != api.InsCall || ins[2].Kind != api.InsCall {
		t.Error("two blocks share their instructions")
	}
	wantApart(t, "Trim", append(numbers(h), args))
}

// An answer hangs on what is handed in alone: not on what was asked before, nor on what is asked beside it.
func TestSameAnswerEachTime(t *testing.T) {
	m := maker{odds: firstOdd}
	var all [][]api.Graph
	var want [][]any
	for range 100 {
		p := append(m.program(), m.junk())
		all, want = append(all, p), append(want, askAll(p))
	}
	var wait sync.WaitGroup
	for range 4 {
		wait.Go(func() {
			for i, p := range all {
				if !reflect.DeepEqual(askAll(p), want[i]) {
					t.Errorf("%v is told otherwise another time", p)
				}
			}
		})
	}
	wait.Wait()
}
