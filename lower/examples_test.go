package lower_test

import (
	"testing"

	"smithy/api"
	"smithy/graph"
)

// The chapter's examples, by their numbers.
func TestExamples(t *testing.T) {
	// 1
	const over = "func f(a i64) i64 { return 7 / a; }"
	wantRun(t, over, []uint64{0}, trapped(api.TrapZero, 1))
	wantRun(t, over, []uint64{2}, told(3, 1))
	g := programOf(t, over).graphs[0]
	ahead := graph.Ahead(g)
	for i, b := range g.Blocks {
		for _, x := range b.Ins {
			if x.Op == api.OpDiv && (len(ahead[i]) != 1 || !asks(g, ahead[i][0], x.Args[1])) {
				t.Errorf("%s: ahead of the block %d none asks for 0", over, i)
			}
		}
	}
	// 2
	const both = "func f(p bool) bool { return p && g(p); } func g(p bool) bool { print p; return p; }"
	wantRun(t, both, []uint64{0}, told(0, 1))
	wantRun(t, both, []uint64{1}, told(1, 2, api.Show{Type: api.Bool, Bits: 1}))
}

// asks tells whether a block compares a variable, and branches by that to a block that ends in a trap.
func asks(g api.Graph, block, v int) bool {
	b := g.Blocks[block]
	last := len(b.Ins) - 1
	if last < 0 || b.Term.Kind != api.TermBranch {
		return false
	}
	x := b.Ins[last]
	return x.Op == api.OpEq && x.Args[0] == v && x.Dst == b.Term.Arg && g.Blocks[b.Term.To[0]].Term == api.Term{Kind: api.TermTrap, Trap: api.TrapZero}
}

// The examples of the document's own chapter that a layer up to this one can tell.
func TestExamplesOfTheWhole(t *testing.T) {
	const fibonacci = "func f(n i64) i64 { if n < 2 { return n; } return f(n - 1) + f(n - 2); }"
	wantRun(t, fibonacci, []uint64{5}, told(5, 5))
	if p := programOf(t, fibonacci, 5); ran(t, p.graphs, 0, p.args, many, 4, fibonacci).End != api.Deep {
		t.Errorf("%s: with the depth 4 it is not Deep", fibonacci)
	}
	wantRun(t, "func f(a i64) i64 { print a; return 7 / a; }", []uint64{0}, trapped(api.TrapZero, 1, whole(0)...))
	wantRun(t, "func f(n i64) i64 { print n; return n * 2; }", []uint64{21}, told(42, 1, whole(21)...))
}
