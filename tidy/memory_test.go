package tidy_test

import (
	"reflect"
	"slices"
	"sync"
	"testing"

	"smithy/api"
	"smithy/tidy"
)

// roomy is a graph of its own whose lists have spare room, filled with what could be told of.
func roomy(g api.Graph) api.Graph {
	g = copied(g)
	for i, b := range g.Blocks {
		for j, x := range b.Ins {
			b.Ins[j].Args = append(x.Args, 1, 2)[:len(x.Args)]
		}
		g.Blocks[i].Ins = append(b.Ins, show(1))[:len(b.Ins)]
	}
	g.Blocks = append(g.Blocks, block(jump(1), show(1)))[:len(g.Blocks)]
	g.Params = append(g.Params, 1)[:len(g.Params)]
	g.Vars = append(g.Vars, api.U8)[:len(g.Vars)]
	g.Arrays = append(g.Arrays, api.Array{Type: api.U8, Size: 1})[:len(g.Arrays)]
	return g
}

func roomyAll(p []api.Graph) []api.Graph {
	var l []api.Graph
	for _, g := range p {
		l = append(l, roomy(g))
	}
	return append(l, once())[:len(l)]
}

// spread is roomy graphs with their spare room, copied.
func spread(p []api.Graph) []api.Graph {
	all := slices.Clone(p[:len(p)+1])
	for k, g := range p {
		n := len(g.Blocks)
		g.Blocks = slices.Clone(g.Blocks[:n+1])
		for i, b := range g.Blocks[:n] {
			ins := slices.Clone(b.Ins[:len(b.Ins)+1])
			for j, x := range ins[:len(b.Ins)] {
				ins[j].Args = slices.Clone(x.Args[:len(x.Args)+2])
			}
			g.Blocks[i].Ins = ins
		}
		g.Params, g.Vars, g.Arrays = slices.Clone(g.Params[:len(g.Params)+1]), slices.Clone(g.Vars[:len(g.Vars)+1]), slices.Clone(g.Arrays[:len(g.Arrays)+1])
		all[k] = g
	}
	return all
}

func TestNothingHandedInIsChanged(t *testing.T) {
	m := maker{odds: firstOdd}
	count := map[api.Errno]int{}
	for range 3000 {
		p, f := m.program()
		if m.often(20) {
			m.bend(&p[f])
		}
		if m.often(10) {
			f = m.below(len(p)+2) - 1
		}
		p = roomyAll(p)
		was := spread(p)
		g, e := tidy.Apply(p, f)
		count[e]++
		clean := make([]bool, len(p))
		for i := range p {
			clean[i] = tidy.Clean(p[i])
		}
		if !reflect.DeepEqual(spread(p), was) {
			t.Fatalf("%v has become %v", was, spread(p))
		}
		// Spare room plays no part.
		if h, d := tidy.Apply(copiedAll(p), f); d != e || !sameGraph(g, h) {
			t.Fatalf("%v, %d is told otherwise without spare room", p, f)
		}
		for i := range p {
			wantIs(t, "without spare room", clean[i], copied(p[i]))
		}
	}
	if count[api.OK] < 1000 || count[api.ErrArg] < 100 || count[api.ErrShape] < 100 {
		t.Errorf("%v", count)
	}
}

// spoil overwrites all lists of a graph, and their spare room.
func spoil(g api.Graph) {
	for _, b := range g.Blocks[:cap(g.Blocks)] {
		for _, x := range b.Ins[:cap(b.Ins)] {
			fill(x.Args, 77)
		}
		fill(b.Ins, api.Ins{Kind: 99, Dst: 99})
	}
	fill(g.Blocks, api.Block{Term: trap(99)})
	fill(g.Params, 77)
	fill(g.Vars, 77)
	fill(g.Arrays, api.Array{Size: 77})
}

func fill[T any](l []T, with T) {
	l = l[:cap(l)]
	for i := range l {
		l[i] = with
	}
}

// What is handed out is new, of a clean graph, too: who changes it, its spare room too, changes neither what was handed in nor another answer.
func TestWhatIsHandedOutIsNew(t *testing.T) {
	m := maker{odds: firstOdd}
	for i := range 1500 {
		p, f := m.program()
		if i%3 == 0 {
			p[f] = wantApplied(t, "made clean", p, f)
		}
		p = roomyAll(p)
		was := spread(p)
		g := wantApplied(t, "once", p, f)
		kept := copied(g)
		h := wantApplied(t, "again", p, f)
		if !sameGraph(g, h) {
			t.Fatalf("%v becomes %v and %v", p[f], g, h)
		}
		spoil(h)
		if !reflect.DeepEqual(spread(p), was) || !sameGraph(g, kept) {
			t.Fatalf("%v: other lists have changed", p)
		}
		if again := wantApplied(t, "once more", p, f); !sameGraph(again, kept) {
			t.Fatalf("%v becomes %v and %v", p[f], kept, again)
		}
	}
}

// No two lists of one answer share memory, their spare room neither: each is overwritten in turn, and the others stay.
func TestListsOfOneAnswerAreApart(t *testing.T) {
	m := maker{odds: firstOdd}
	for range 300 {
		p, f := m.program()
		g := wantApplied(t, "once", p, f)
		lists := [][]int{g.Params}
		for _, b := range g.Blocks {
			for _, x := range b.Ins {
				lists = append(lists, x.Args)
			}
		}
		for i, l := range lists {
			fill(l, -i-1)
			for k, other := range lists[:i] {
				if slices.ContainsFunc(other[:cap(other)], func(v int) bool { return v != -k-1 }) {
					t.Fatalf("%v: the lists %d and %d share memory", g, i, k)
				}
			}
		}
		for i, b := range g.Blocks {
			fill(b.Ins, api.Ins{Ref: i})
			for k, other := range g.Blocks[:i] {
				if slices.ContainsFunc(other.Ins[:cap(other.Ins)], func(x api.Ins) bool { return x.Ref != k }) {
					t.Fatalf("the instructions of %d and %d share memory", i, k)
				}
			}
		}
	}
}

// Graphs that were handed in may change behind that: nothing is kept of them.
func TestNothingIsKept(t *testing.T) {
	p := alone(sound())
	g := wantApplied(t, "at first", p, 0)
	want := copied(g)
	p[0].Blocks[0].Ins[0].Bits, p[0].Blocks[3].Ins[0].Args[0], p[0].Params[0], p[0].Vars[2], p[0].Arrays[0].Size = 9, 77, 77, 77, 77
	p[0].Blocks[1].Term = trap(1)
	if !sameGraph(g, want) {
		t.Errorf("%v has become %v", want, g)
	}
	if g := wantApplied(t, "another time", alone(sound()), 0); !sameGraph(g, want) {
		t.Errorf("%v; it was %v", g, want)
	}
}

// An answer hangs on what is handed in alone: not on what was asked before, nor on what is asked beside it.
func TestSameAnswerEachTime(t *testing.T) {
	m := maker{odds: firstOdd}
	type asked struct {
		p     []api.Graph
		f     int
		clean bool
		want  api.Graph
	}
	var l []asked
	for range 300 {
		p, f := m.program()
		l = append(l, asked{p, f, isClean(p[f]), wantApplied(t, "a made program", p, f)})
	}
	var wait sync.WaitGroup
	for range 4 {
		wait.Go(func() {
			for _, a := range l {
				tidy.Apply(alone(twice()), 0)
				if g, e := tidy.Apply(a.p, a.f); e != api.OK || !sameGraph(g, a.want) || tidy.Clean(a.p[a.f]) != a.clean {
					t.Errorf("%v, %d is told otherwise another time", a.p, a.f)
				}
			}
		})
	}
	wait.Wait()
}
