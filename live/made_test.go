package live_test

import (
	"testing"

	"smithy/api"
	"smithy/live"
)

// All graphs of three blocks made of these parts, which ask and set two variables.
func TestAllSmallGraphs(t *testing.T) {
	entries := []api.Block{block(jump(1)), block(jump(2), constant(0)), block(branch(0, 1, 2)), block(branch(1, 2, 1), constant(1)), block(branch(1, 1, 1), copyOf(0, 1))}
	inner := [][]api.Ins{nil, {show(0)}, {constant(0)}, {copyOf(1, 0)}, {constant(0), show(1)}, {copyOf(0, 1), copyOf(1, 0)}}
	endings := []api.Term{jump(1), jump(2), branch(0, 1, 2), branch(1, 2, 2), back(0), back(1), trap(1)}
	var bodies []api.Block
	for _, ins := range inner {
		for _, end := range endings {
			bodies = append(bodies, block(end, ins...))
		}
	}
	tried := 0
	for _, entry := range entries {
		for _, one := range bodies {
			for _, two := range bodies {
				g := truths(2, entry, one, two)
				ones, twos := somePhis(len(blocksAhead(g, 1))), somePhis(len(blocksAhead(g, 2)))
				for _, p := range ones {
					for _, q := range twos {
						g.Blocks[1].Ins, g.Blocks[2].Ins = append(p[:len(p):len(p)], one.Ins...), append(q[:len(q):len(q)], two.Ins...)
						wantAllWords(t, g)
						tried++
					}
				}
				if t.Failed() {
					return
				}
			}
		}
	}
	if tried < 50000 {
		t.Errorf("%d were tried", tried)
	}
}

// somePhis are rows of phis of two variables with so many arguments.
func somePhis(ahead int) [][]api.Ins {
	zeros, mixed := make([]int, ahead), make([]int, ahead)
	for i := range mixed {
		mixed[i] = (i + 1) % 2
	}
	return [][]api.Ins{nil, {phi(1, zeros...)}, {phi(0, mixed...)}, {phi(0, mixed...), phi(1, zeros...)}}
}

// wantAllWords asks for what both ways of the words say, and that these say the same.
func wantAllWords(t *testing.T, g api.Graph) {
	t.Helper()
	into, out := leastSets(g)
	if a, b := byWays(g); !sameLists(a, into) || !sameLists(b, out) {
		t.Fatalf("%v: the words say %v, %v; and %v, %v", g.Blocks, into, out, a, b)
	}
	wantLive(t, "by the words", g, into, out)
}

func TestMadeGraphs(t *testing.T) {
	m := maker{odds: firstOdd}
	for range 3000 {
		for _, g := range m.program() {
			wantAllWords(t, g)
		}
		if t.Failed() {
			return
		}
	}
}

// Some with hardly any variable or block, some with more variables than a word holds.
func TestMadeGraphsOfTruths(t *testing.T) {
	m := maker{odds: firstOdd}
	for range 4000 {
		wantAllWords(t, m.truths(1+m.below(14), 1+m.below(5), pick(&m.odds, 10, 30, 60)))
		if t.Failed() {
			return
		}
	}
	for range 150 {
		wantAllWords(t, m.truths(1+m.below(14), 60+m.below(90), pick(&m.odds, 10, 40, 80)))
		if t.Failed() {
			return
		}
	}
}

// The way for great graphs is right where the words can be asked.
func TestThirdWay(t *testing.T) {
	m := maker{odds: firstOdd}
	for range 2000 {
		g := m.truths(1+m.below(14), 1+m.below(8), pick(&m.odds, 10, 30, 60))
		into, out := leastSets(g)
		if a, b := backward(g); !sameLists(a, into) || !sameLists(b, out) {
			t.Fatalf("%v: %v, %v; want %v, %v", g.Blocks, a, b, into, out)
		}
	}
}

func TestGreatMadeGraphs(t *testing.T) {
	m := maker{odds: firstOdd}
	for range 40 {
		g := m.truths(1+m.below(2000), 1+m.below(300), pick(&m.odds, 5, 30, 80))
		into, out := backward(g)
		a, b, e := live.Live(g)
		if e != api.OK || !sameLists(a, into) || !sameLists(b, out) {
			t.Fatalf("a graph of %d blocks and %d variables is told otherwise, %d", len(g.Blocks), len(g.Vars), e)
		}
	}
}
