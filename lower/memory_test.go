package lower_test

import (
	"reflect"
	"slices"
	"sync"
	"testing"

	"smithy/api"
	"smithy/lower"
)

// roomy is a tree whose lists have spare room, filled with what could be told of.
func roomy(t api.Tree) api.Tree {
	t = copied(t)
	for i, n := range t.Nodes {
		t.Nodes[i].Kids = append(n.Kids, 77, 78)[:len(n.Kids)]
	}
	for i, f := range t.Funcs {
		t.Funcs[i].Params = append(f.Params, api.Param{Name: "spare"})[:len(f.Params)]
	}
	t.Nodes = append(t.Nodes, api.Node{Name: "spare"})[:len(t.Nodes)]
	t.Funcs = append(t.Funcs, api.Func{Name: "spare"})[:len(t.Funcs)]
	return t
}

// spread is a roomy tree with its spare room, copied.
func spread(t api.Tree) api.Tree {
	t.Nodes, t.Funcs = slices.Clone(t.Nodes[:len(t.Nodes)+1]), slices.Clone(t.Funcs[:len(t.Funcs)+1])
	for i, n := range t.Nodes[:len(t.Nodes)-1] {
		t.Nodes[i].Kids = slices.Clone(n.Kids[:len(n.Kids)+2])
	}
	for i, f := range t.Funcs[:len(t.Funcs)-1] {
		t.Funcs[i].Params = slices.Clone(f.Params[:len(f.Params)+1])
	}
	return t
}

func TestNothingHandedInIsChanged(t *testing.T) {
	m := maker{odds: firstOdd}
	for range 300 {
		c := m.next(t)
		tree := roomy(c.tree)
		was := spread(tree)
		if p := lowered(t, tree, c.src); !reflect.DeepEqual(p, c.graphs) {
			t.Fatalf("%s: with spare room %v; want %v", c.src, p, c.graphs)
		}
		if !reflect.DeepEqual(spread(tree), was) {
			t.Fatalf("%s: the tree has changed", c.src)
		}
	}
}

// spoil changes all of a list, its spare room too.
func spoil[T any](l []T, with T) {
	for i := range l[:cap(l)] {
		l[:cap(l)][i] = with
	}
}

func spoilTree(t api.Tree) {
	for i := range t.Nodes {
		spoil(t.Nodes[i].Kids, 77)
	}
	for i := range t.Funcs {
		spoil(t.Funcs[i].Params, api.Param{Name: "spoilt"})
	}
	spoil(t.Nodes, api.Node{Name: "spoilt"})
	spoil(t.Funcs, api.Func{Name: "spoilt"})
}

// What is handed in is not kept: who changes it changes no answer.
func TestNothingHandedInIsKept(t *testing.T) {
	m := maker{odds: firstOdd}
	for range 300 {
		c := m.next(t)
		tree := copied(c.tree)
		p := lowered(t, tree, c.src)
		spoilTree(tree)
		if !reflect.DeepEqual(p, c.graphs) {
			t.Fatalf("%s: %v has become %v", c.src, c.graphs, p)
		}
	}
}

// lists are all that a program is made of, one behind the other: those of numbers, and the others.
func lists(p []api.Graph) (numbers [][]int, vars [][]api.Type, arrays [][]api.Array, ins [][]api.Ins, blocks [][]api.Block) {
	for _, g := range p {
		numbers, vars, arrays, blocks = append(numbers, g.Params), append(vars, g.Vars), append(arrays, g.Arrays), append(blocks, g.Blocks)
		for _, b := range g.Blocks {
			ins = append(ins, b.Ins)
			for _, x := range b.Ins {
				numbers = append(numbers, x.Args)
			}
		}
	}
	return
}

// wantApart asks that no two lists share memory, their spare room too.
func wantApart[T any](t *testing.T, what string, l [][]T) {
	t.Helper()
	owner := map[*T]int{}
	for i := range l {
		room := l[i][:cap(l[i])]
		for j := range room {
			if other, there := owner[&room[j]]; there {
				t.Fatalf("%s: the lists %d and %d share memory", what, other, i)
			}
			owner[&room[j]] = i
		}
	}
}

// What is handed out is new, and none of its lists shares memory with another one.
func TestWhatIsHandedOutIsNew(t *testing.T) {
	m := maker{odds: firstOdd}
	for range 300 {
		c := m.next(t)
		// The same tree twice.
		p := append(lowered(t, c.tree, c.src), c.graphs...)
		numbers, vars, arrays, ins, blocks := lists(p)
		for _, n := range c.tree.Nodes {
			numbers = append(numbers, n.Kids)
		}
		wantApart(t, c.src, numbers)
		wantApart(t, c.src, vars)
		wantApart(t, c.src, arrays)
		wantApart(t, c.src, ins)
		wantApart(t, c.src, blocks)
	}
}

// An answer hangs on what is handed in alone: not on what was asked before, nor on what is asked beside it.
func TestSameAnswerEachTime(t *testing.T) {
	m := maker{odds: firstOdd}
	var all []program
	for range 100 {
		all = append(all, m.next(t))
	}
	var wait sync.WaitGroup
	for range 4 {
		wait.Go(func() {
			for _, c := range all {
				if p, err := lower.Lower(c.tree); err != api.OK || !reflect.DeepEqual(p, c.graphs) {
					t.Errorf("%s: %v, %d; want %v", c.src, p, err, c.graphs)
				}
			}
		})
	}
	wait.Wait()
}

// Places play no part.
func TestPlacesPlayNoPart(t *testing.T) {
	m := maker{odds: firstOdd}
	for range 300 {
		c := m.next(t)
		tree := copied(c.tree)
		for i := range tree.Nodes {
			tree.Nodes[i].At = int(m.number())
		}
		for i := range tree.Funcs {
			tree.Funcs[i].At = -5
		}
		if p := lowered(t, tree, c.src); !reflect.DeepEqual(p, c.graphs) {
			t.Fatalf("%s: with other places %v; want %v", c.src, p, c.graphs)
		}
	}
}
