package live_test

import (
	"reflect"
	"slices"
	"testing"

	"smithy/api"
	"smithy/graph"
	"smithy/live"
	"smithy/run"
	"smithy/scalar"
)

// traces is what runs of a graph of a program show, with words of several sorts.
func traces(t *testing.T, p []api.Graph, f int) []api.Trace {
	t.Helper()
	var l []api.Trace
	for _, seed := range []uint64{0, 1, 0x123456789abcdef3, 1<<64 - 1} {
		var args []uint64
		for i, v := range p[f].Params {
			args = append(args, scalar.Cut(p[f].Vars[v], seed*uint64(i+1)))
		}
		trace, e := run.Run(p, f, args, 60, 4)
		if e != api.OK {
			t.Fatalf("%v is not run: %d", p, e)
		}
		l = append(l, trace)
	}
	return l
}

// odd is a constant that sets a variable to a word that nothing hangs on, if it is not live.
func (m *maker) odd(g api.Graph, v int) api.Ins {
	return api.Ins{Kind: api.InsConst, Dst: v, Bits: scalar.Cut(g.Vars[v], m.number()|1)}
}

// phisOf is how many phis a block has.
func phisOf(b api.Block) int {
	n := 0
	for n < len(b.Ins) && b.Ins[n].Kind == api.InsPhi {
		n++
	}
	return n
}

// putIn is a graph of its own with instructions more at a place of a block.
func putIn(g api.Graph, at, place int, ins ...api.Ins) api.Graph {
	g = copied(g)
	g.Blocks[at].Ins = slices.Insert(g.Blocks[at].Ins, place, ins...)
	return g
}

// What is not live may become anything: no run shows it.
func TestNothingHangsOnWhatIsNotLive(t *testing.T) {
	m := maker{odds: firstOdd}
	for range 800 {
		p := m.program()
		f := m.below(len(p))
		g := p[f]
		into, out, e := live.Live(g)
		if e != api.OK {
			t.Fatalf("%v is refused: %d", g, e)
		}
		was := traces(t, p, f)
		all := copied(g)
		for i, b := range g.Blocks {
			var head, end []api.Ins
			for v := range g.Vars {
				if !slices.Contains(into[i], v) && !slices.ContainsFunc(b.Ins[:phisOf(b)], func(x api.Ins) bool { return x.Dst == v }) {
					head = append(head, m.odd(g, v))
				}
				if !slices.Contains(out[i], v) && !endAsks(b.Term, v) {
					end = append(end, m.odd(g, v))
				}
			}
			all = putIn(all, i, len(b.Ins), end...)
			all = putIn(all, i, phisOf(b), head...)
		}
		q := slices.Clone(p)
		if q[f] = all; !reflect.DeepEqual(traces(t, q, f), was) {
			t.Fatalf("%v shows something else, where what is not live becomes something else", p)
		}
	}
}

// What is live into the entry, and no parameter, is 0 where it is asked: nobody sees it set to 0 ahead of all.
func TestLiveIntoTheEntry(t *testing.T) {
	m := maker{odds: firstOdd}
	found, seen := 0, 0
	for range 800 {
		p := m.program()
		f := m.below(len(p))
		g := p[f]
		into, _, _ := live.Live(g)
		was := traces(t, p, f)
		q := slices.Clone(p)
		var noughts, odd []api.Ins
		for _, v := range into[0] {
			if !slices.Contains(g.Params, v) {
				noughts, odd = append(noughts, constant(v)), append(odd, m.odd(g, v))
			}
		}
		if q[f] = putIn(g, 0, 0, noughts...); !reflect.DeepEqual(traces(t, q, f), was) {
			t.Fatalf("%v shows something else, where %v are set to 0 first", p, noughts)
		}
		found += len(odd)
		if q[f] = putIn(g, 0, 0, odd...); !reflect.DeepEqual(traces(t, q, f), was) {
			seen++
		}
	}
	if found < 300 || seen < 100 {
		t.Errorf("%d were live into the entry; of %d graphs it was seen", found, seen)
	}
}

// What is live out of a block is just what is live into those next to it, and what their phis ask for it.
func TestOutIsWhatIsNext(t *testing.T) {
	m := maker{odds: firstOdd}
	for range 1500 {
		g := m.truths(1+m.below(40), 1+m.below(150), pick(&m.odds, 10, 40))
		into, out, e := live.Live(g)
		if e != api.OK || len(into) != len(g.Blocks) || len(out) != len(g.Blocks) {
			t.Fatalf("%v: %d, %d lists, %d", g, len(into), len(out), e)
		}
		ahead := graph.Ahead(g)
		for i, b := range g.Blocks {
			var want []int
			for _, to := range graph.Next(b) {
				want = append(want, into[to]...)
				for _, x := range g.Blocks[to].Ins[:phisOf(g.Blocks[to])] {
					want = append(want, x.Args[slices.Index(ahead[to], i)])
				}
			}
			if want = with(want); !slices.Equal(out[i], want) {
				t.Fatalf("%v: out of %d are %v; want %v", g, i, out[i], want)
			}
		}
	}
}

// Variables that nothing asks are live nowhere, however often they are set.
func TestWhatNothingAsksIsLiveNowhere(t *testing.T) {
	m := maker{odds: firstOdd}
	for range 1500 {
		g := m.truths(1+m.below(30), 20+m.below(120), pick(&m.odds, 5, 20, 40))
		asked := make([]bool, len(g.Vars))
		for _, b := range g.Blocks {
			for _, x := range b.Ins {
				for _, v := range x.Args {
					asked[v] = true
				}
			}
			if b.Term.Kind == api.TermBranch || b.Term.Kind == api.TermReturn {
				asked[b.Term.Arg] = true
			}
		}
		into, out, _ := live.Live(g)
		for _, l := range slices.Concat(into, out) {
			if slices.ContainsFunc(l, func(v int) bool { return !asked[v] }) {
				t.Fatalf("%v: %v are live, not all of which are asked", g, l)
			}
		}
	}
}

func TestRowsRise(t *testing.T) {
	m := maker{odds: firstOdd}
	for range 1500 {
		g := m.truths(1+m.below(60), 1+m.below(300), pick(&m.odds, 10, 60))
		into, out, _ := live.Live(g)
		for _, l := range slices.Concat(into, out) {
			for i := 1; i < len(l); i++ {
				if l[i-1] >= l[i] {
					t.Fatalf("%v does not rise", l)
				}
			}
			if len(l) > 0 && (l[0] < 0 || l[len(l)-1] >= len(g.Vars)) {
				t.Fatalf("%v are not all variables", l)
			}
		}
	}
}
