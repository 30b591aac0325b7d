package run_test

import (
	"reflect"
	"slices"
	"sync"
	"testing"

	"smithy/api"
	"smithy/run"
)

// roomy is a graph of its own whose lists have spare room, filled with what could be told of.
func roomy(g api.Graph) api.Graph {
	g = copied(g)
	for i, b := range g.Blocks {
		for j, x := range b.Ins {
			b.Ins[j].Args = append(x.Args, 1, 2)[:len(x.Args)]
		}
		g.Blocks[i].Ins = append(b.Ins, show(1))[:len(b.Ins)]
	}
	g.Blocks = append(g.Blocks, block(jump(1)))[:len(g.Blocks)]
	g.Params = append(g.Params, 1)[:len(g.Params)]
	g.Vars = append(g.Vars, api.U8)[:len(g.Vars)]
	g.Arrays = append(g.Arrays, api.Array{Type: api.U8, Size: 1})[:len(g.Arrays)]
	return g
}

// spread is a roomy graph with its spare room, copied.
func spread(g api.Graph) api.Graph {
	n := len(g.Blocks)
	g.Blocks = slices.Clone(g.Blocks[:n+1])
	for i, b := range g.Blocks[:n] {
		ins := slices.Clone(b.Ins[:len(b.Ins)+1])
		for j, x := range ins[:len(b.Ins)] {
			ins[j].Args = slices.Clone(x.Args[:len(x.Args)+2])
		}
		g.Blocks[i].Ins = ins
	}
	g.Params, g.Vars, g.Arrays = slices.Clone(g.Params[:len(g.Params)+1]), slices.Clone(g.Vars[:len(g.Vars)+1]), slices.Clone(g.Arrays[:len(g.Arrays)+1])
	return g
}

func TestNothingHandedInIsChanged(t *testing.T) {
	m := maker{odds: firstOdd}
	for range 2000 {
		c := m.next()
		want := ran(t, c.p, c.f, c.args, 60, 6)
		var was []api.Graph
		for i := range c.p {
			c.p[i] = roomy(c.p[i])
			was = append(was, spread(c.p[i]))
		}
		p, args := append(c.p, plain())[:len(c.p)], append(c.args, 5, 6)
		words := slices.Clone(args)
		// Spare room plays no part.
		if trace := ran(t, p, c.f, args[:len(c.args)], 60, 6); !same(trace, want) {
			t.Fatalf("%v; with spare room %v", want, trace)
		}
		for i := range p {
			if !reflect.DeepEqual(spread(p[i]), was[i]) {
				t.Fatalf("%v has become %v", was[i], spread(p[i]))
			}
		}
		if !reflect.DeepEqual(p[:len(p)+1][len(p)], plain()) || !slices.Equal(args, words) {
			t.Fatal("the words, or the spare room of the program, have changed")
		}
	}
	// Parameters that are set leave the words as they are.
	args := words(1, 2)
	ran(t, []api.Graph{numbers(2, block(back(0), constant(0, 7), constant(1, 8), call(1, 2, 0, 1))), numbers(2, block(back(0), constant(0, 9)))}, 0, args, many, many)
	if !slices.Equal(args, words(1, 2)) {
		t.Errorf("the words have become %d", args)
	}
}

// What is handed in is not kept: who changes it behind a run changes no answer of that.
func TestNothingHandedInIsKept(t *testing.T) {
	p, args := []api.Graph{counter()}, words(3)
	first := ran(t, p, 0, args, many, many)
	want := told(3, 9, 1, whole(0, 1, 2, 99)...)
	args[0] = 77
	p[0].Blocks[2].Ins[0] = show(0)
	p[0].Vars[1] = api.U8
	if !same(first, want) {
		t.Errorf("%v; want %v", first, want)
	}
}

// What is handed out is new: who changes it, its spare room too, changes no other answer.
func TestWhatIsHandedOutIsNew(t *testing.T) {
	p := []api.Graph{counter()}
	want := told(5, 13, 1, whole(0, 1, 2, 3, 4, 99)...)
	first, other := ran(t, p, 0, words(5), many, many), ran(t, p, 0, words(5), many, many)
	spare := first.Shows[:cap(first.Shows)]
	for i := range spare {
		spare[i] = api.Show{Type: 77, Bits: 77}
	}
	if again := ran(t, p, 0, words(5), many, many); !same(other, want) || !same(again, want) {
		t.Errorf("%v and %v; want %v", other, again, want)
	}
}

// An answer hangs on what is handed in alone: not on what was asked before, nor on what is asked beside it.
func TestSameAnswerEachTime(t *testing.T) {
	m := maker{odds: firstOdd}
	var all []made
	var want []api.Trace
	for range 300 {
		c := m.next()
		all, want = append(all, c), append(want, ran(t, c.p, c.f, c.args, 200, 10))
	}
	var wait sync.WaitGroup
	for range 4 {
		wait.Go(func() {
			for i, c := range all {
				if trace, err := run.Run(c.p, c.f, c.args, 200, 10); err != api.OK || !same(trace, want[i]) {
					t.Errorf("%v: %v, %d; want %v", c.p, trace, err, want[i])
				}
			}
		})
	}
	wait.Wait()
}

// Lists of a program may share memory.
func TestSharedLists(t *testing.T) {
	g := counter()
	p := []api.Graph{g, g, g}
	p[1].Name = "other"
	for f := range p {
		if trace := ran(t, p, f, words(2), many, many); !same(trace, told(2, 7, 1, whole(0, 1, 99)...)) {
			t.Errorf("of the graph %d: %v", f, trace)
		}
	}
}
