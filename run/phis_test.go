package run_test

import (
	"testing"

	"smithy/api"
)

// around is a loop that goes round as often as the parameter 0 says, with these phis at its head beside its own, of the variables 3 and on, which are 10, 20, 30 and so on as it begins; it shows the variables 3 to 6 each time.
func around(phis ...api.Ins) []api.Graph {
	head := append([]api.Ins{phi(1, 1, 2)}, phis...)
	head = append(head, show(3), show(4), show(5), show(6), op(api.OpLt, truth, 1, 0))
	return []api.Graph{numbers(1,
		block(jump(1), constant(3, 10), constant(4, 20), constant(5, 30), constant(6, 40)),
		block(branch(truth, 2, 3), head...),
		block(jump(1), constant(2, 1), op(api.OpAdd, 2, 1, 2)),
		block(back(1)))}
}

// All of a block's phis are set at once, in whichever order they stand.
func TestPhisAtOnce(t *testing.T) {
	for _, c := range []struct {
		what string
		phis []api.Ins
		want []int
	}{
		{"two change places", []api.Ins{phi(3, 3, 4), phi(4, 4, 3)}, []int{10, 20, 30, 40, 20, 10, 30, 40, 10, 20, 30, 40}},
		{"two change places, turned", []api.Ins{phi(4, 4, 3), phi(3, 3, 4)}, []int{10, 20, 30, 40, 20, 10, 30, 40, 10, 20, 30, 40}},
		{"four go round", []api.Ins{phi(3, 3, 4), phi(4, 4, 5), phi(5, 5, 6), phi(6, 6, 3)}, []int{10, 20, 30, 40, 20, 30, 40, 10, 30, 40, 10, 20}},
		{"four go round the other way", []api.Ins{phi(3, 3, 6), phi(4, 4, 3), phi(5, 5, 4), phi(6, 6, 5)}, []int{10, 20, 30, 40, 40, 10, 20, 30, 30, 40, 10, 20}},
		{"a row reads the one ahead", []api.Ins{phi(4, 4, 3), phi(5, 5, 4), phi(6, 6, 5)}, []int{10, 20, 30, 40, 10, 10, 20, 30, 10, 10, 10, 20}},
		{"a row reads the one behind", []api.Ins{phi(3, 3, 4), phi(4, 4, 5), phi(5, 5, 6)}, []int{10, 20, 30, 40, 20, 30, 40, 40, 30, 40, 40, 40}},
		{"one reads itself", []api.Ins{phi(3, 3, 3), phi(4, 5, 4)}, []int{10, 30, 30, 40, 10, 30, 30, 40, 10, 30, 30, 40}},
		{"all read one that is set", []api.Ins{phi(3, 4, 6), phi(4, 3, 3), phi(5, 3, 3), phi(6, 3, 3)}, []int{20, 10, 10, 10, 10, 20, 20, 20, 20, 10, 10, 10}},
		{"one that was never set", []api.Ins{phi(3, 3, 8), phi(4, 8, 3)}, []int{10, 0, 30, 40, 0, 10, 30, 40, 0, 0, 30, 40}},
	} {
		wantRun(t, c.what, around(c.phis...), words(2), many, 1, told(2, 1+2*2+2, 1, whole(c.want...)...))
	}
}

// The loop's own phi is set with the others, so that it may be read by them.
func TestPhisReadTheCounter(t *testing.T) {
	wantRun(t, "the counter as it was", around(phi(3, 3, 1)), words(3), many, 1, told(3, 9, 1, whole(10, 20, 30, 40, 0, 20, 30, 40, 1, 20, 30, 40, 2, 20, 30, 40)...))
	wantRun(t, "the counter as it is to be", around(phi(3, 3, 2)), words(3), many, 1, told(3, 9, 1, whole(10, 20, 30, 40, 1, 20, 30, 40, 2, 20, 30, 40, 3, 20, 30, 40)...))
}

// An argument goes by the place of the block that control came from, among all that are ahead, reached or not, in rising order.
func TestPhisByBlocksAhead(t *testing.T) {
	// 5 is where all meet; ahead of it are 1, 2, 4, 6; 6 is not reached. 3 leads to 4 alone.
	p := []api.Graph{numbers(2,
		block(branch(truth, 2, 3), op(api.OpEq, truth, 0, 8)),
		block(jump(5)),
		block(branch(truth, 5, 5)),
		block(branch(truth, 1, 4), op(api.OpEq, truth, 0, 1)),
		block(jump(5)),
		block(back(2), phi(2, 3, 4, 5, 6), show(2)),
		block(jump(5)))}
	p[0].Blocks[0].Ins = append([]api.Ins{constant(3, 10), constant(4, 20), constant(5, 40), constant(6, 60)}, p[0].Blocks[0].Ins...)
	wantRun(t, "from 2, a branch with one edge", p, words(0, 7), many, 1, told(20, 3, 1, whole(20)...))
	wantRun(t, "from 1", p, words(7, 7), many, 1, told(10, 4, 1, whole(10)...))
	wantRun(t, "from 4", p, words(7, 8), many, 1, told(40, 4, 1, whole(40)...))
}

// A block that leads to itself is among those ahead of it, at its place.
func TestPhisOfABlockThatLeadsToItself(t *testing.T) {
	p := []api.Graph{numbers(1,
		block(jump(2)),
		block(back(2), phi(4, 2), show(4)),
		block(branch(truth, 2, 1), phi(1, 3, 2), constant(3, 1), op(api.OpAdd, 2, 1, 3), show(1), op(api.OpLt, truth, 2, 0)))}
	wantRun(t, "round itself", p, words(3), many, 1, told(3, 5, 1, whole(0, 1, 2, 3)...))
	// Both of its ways lead to itself.
	p = []api.Graph{numbers(1, block(jump(1)), block(branch(truth, 1, 1), phi(1, 0, 2), constant(2, 1), op(api.OpAdd, 2, 1, 2), show(1), op(api.OpEq, truth, 1, 0)))}
	wantRun(t, "round itself for ever", p, words(5), 5, 1, outOfSteps(5, 1, whole(5, 6, 7, 8)...))
}

func TestPhisOfTypes(t *testing.T) {
	for _, u := range types {
		for _, w := range wordsOf(u) {
			g := api.Graph{Params: []int{0, 3}, Result: u, Vars: []api.Type{u, u, u, api.Bool}, Blocks: []api.Block{
				block(branch(3, 1, 2)), block(jump(2)), block(back(2), phi(2, 1, 0), show(2)),
			}}
			wantRun(t, "a phi", []api.Graph{g}, []uint64{w, 1}, 3, 1, told(w, 3, 1, api.Show{Type: u, Bits: w}))
			wantRun(t, "a phi", []api.Graph{g}, []uint64{w, 0}, 2, 1, told(0, 2, 1, api.Show{Type: u}))
		}
	}
}

// Phis are set where a block is entered: not where no step is left, and once for each time.
func TestPhisAndSteps(t *testing.T) {
	p := around(phi(3, 3, 4), phi(4, 4, 3))
	for steps, want := range []int{0, 0, 4, 4, 8, 8, 12, 12} {
		trace := ran(t, p, 0, words(2), steps, 1)
		if len(trace.Shows) != want {
			t.Errorf("with %d steps: %v; want %d shows", steps, trace, want)
		}
	}
	// Behind a call the block's phis are not set again.
	p = []api.Graph{
		numbers(1, block(jump(1)), block(back(2), phi(2, 0), constant(0, 9), call(1, 3, 2), show(2), show(3))),
		numbers(1, block(jump(1)), block(back(0), phi(2, 0), phi(0, 2), show(2))),
	}
	wantRun(t, "a call behind phis", p, words(5), many, many, told(5, 4, 2, whole(5, 5, 0)...))
}

// As many blocks ahead as there may be.
func TestPhiOfManyBlocks(t *testing.T) {
	const last = api.MaxBlocks - 1
	g := numbers(1, block(jump(1)))
	args := make([]int, last-1)
	for i := 1; i < last; i++ {
		g.Blocks = append(g.Blocks, block(jump(last)))
		args[i-1] = 1
	}
	g.Blocks = append(g.Blocks, block(back(2), phi(2, args...)))
	for _, from := range []int{1, 2, 3, 1000, last / 2, last - 2, last - 1} {
		g.Blocks[0].Term.To[0] = from
		args[from-1] = 0
		wantRun(t, "of many blocks one", []api.Graph{g}, words(7), 3, 1, told(7, 3, 1))
		args[from-1] = 1
		if trace := ran(t, []api.Graph{g}, 0, words(7), 3, 1); !same(trace, told(0, 3, 1)) {
			t.Errorf("from %d: %v", from, trace)
		}
	}
}
