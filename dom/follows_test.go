package dom_test

import (
	"slices"
	"testing"

	"smithy/api"
	"smithy/dom"
)

// wantWords holds a net's tree, and all that Over and Under tell of it, against the words.
func wantWords(t *testing.T, next [][]int) {
	t.Helper()
	tree, e := dom.Tree(next)
	if want := slowTree(next); e != api.OK || !slices.Equal(tree, want) {
		t.Fatalf("Tree(%v) tells %v, %d; want %v", next, tree, e, want)
	}
	met := reached(next, nobody)
	for a, row := range slowOver(next) {
		for b, want := range row {
			// Of itself Over tells true, reached or not.
			if dom.Over(tree, a, b) != (want || a == b) {
				t.Fatalf("%v: Over(%v, %d, %d) tells %v", next, tree, a, b, !want)
			}
		}
		if (tree[a] == -1) != (a == 0 || !met[a]) {
			t.Fatalf("%v: Tree tells %v", next, tree)
		}
	}
	wantUnder(t, tree, slowUnder(tree)...)
}

// lattice is the net of so many nodes whose edges are the bits of a number.
func lattice(nodes, bits int) [][]int {
	next := make([][]int, nodes)
	for i := range next {
		for j := range next {
			if bits>>(i*nodes+j)&1 == 1 {
				next[i] = append(next[i], j)
			}
		}
	}
	return next
}

func TestAllSmallNets(t *testing.T) {
	for nodes := 1; nodes <= 4; nodes++ {
		for bits := range 1 << (nodes * nodes) {
			wantWords(t, lattice(nodes, bits))
		}
	}
}

// Of five nodes: all nets without edges to themselves or to the entry, which play no part.
func TestNetsOfFiveNodes(t *testing.T) {
	var edges [][2]int
	for i := range 5 {
		for j := 1; j < 5; j++ {
			if i != j {
				edges = append(edges, [2]int{i, j})
			}
		}
	}
	for bits := range 1 << len(edges) {
		next := make([][]int, 5)
		for place, edge := range edges {
			if bits>>place&1 == 1 {
				next[edge[0]] = append(next[edge[0]], edge[1])
			}
		}
		wantWords(t, next)
	}
}

func TestMadeNets(t *testing.T) {
	o := firstOdd
	met, notMet, deep, irregular := 0, 0, 0, 0
	for range 12000 {
		next := o.anyNet(pick(&o, 6, 12, 30))
		wantWords(t, next)
		tree, _ := dom.Tree(next)
		for i, m := range reached(next, nobody) {
			switch {
			case !m:
				notMet++
			case i > 0 && tree[i] > 0:
				deep++
				fallthrough
			default:
				met++
			}
			// A loop with more than one way in: what leads back is not over what leads to it.
			for _, to := range next[i] {
				if m && to < i && !dom.Over(tree, to, i) {
					irregular++
				}
			}
		}
	}
	if met < 20000 || notMet < 20000 || deep < 5000 || irregular < 5000 {
		t.Errorf("%d were reached, %d were not; %d had another than the entry over them; %d edges lead back to what is not over them", met, notMet, deep, irregular)
	}
}

// Edges in another order, edges that are named again, edges to a node itself, and edges from what is not reached play no part.
func TestWhatPlaysNoPart(t *testing.T) {
	o := firstOdd
	for range 4000 {
		next := o.anyNet(16)
		want := slowTree(next)
		met := reached(next, nobody)
		for i := range next {
			for range o.below(4) {
				switch what := o.below(4); {
				case what == 0 && len(next[i]) > 0:
					next[i] = append(next[i], pick(&o, next[i]...))
				case what == 1:
					next[i] = append(next[i], i)
				case what == 2 && !met[i]:
					next[i] = append(next[i], o.below(len(next)))
				default:
					next[i] = append(next[i], 0)
				}
			}
			next[i] = o.mixed(next[i])
		}
		wantTree(t, "with more edges", next, want...)
	}
}

// Whatever the nodes' numbers are: the same nodes stand over the same ones.
func TestOtherNumbers(t *testing.T) {
	o := firstOdd
	for range 4000 {
		next := o.anyNet(24)
		other, names := o.renamed(next)
		was, _ := dom.Tree(next)
		now, e := dom.Tree(other)
		if e != api.OK || len(now) != len(was) {
			t.Fatalf("Tree(%v) tells %v, %d", other, now, e)
		}
		for i, over := range now {
			if over >= 0 {
				over = names[over]
			}
			if over != was[names[i]] {
				t.Fatalf("%v: %v; by other numbers %v: %v", next, was, other, now)
			}
		}
	}
}

// P10.4: standing over is an order, and of two nodes over a third one stands over the other.
func TestStandingOverIsAnOrder(t *testing.T) {
	o := firstOdd
	for range 3000 {
		next := o.anyNet(10)
		tree, _ := dom.Tree(next)
		for a := range tree {
			wantOver(t, true, tree, a, a)
			for b := range tree {
				if a != b && dom.Over(tree, a, b) && dom.Over(tree, b, a) {
					t.Fatalf("%v: %d and %d stand over each other", next, a, b)
				}
				for c := range tree {
					ab, bc, ac := dom.Over(tree, a, b), dom.Over(tree, b, c), dom.Over(tree, a, c)
					if ab && bc && !ac {
						t.Fatalf("%v: %d stands over %d, that one over %d", next, a, b, c)
					}
					if ac && bc && !ab && !dom.Over(tree, b, a) {
						t.Fatalf("%v: neither of %d and %d, over %d, stands over the other", next, a, b, c)
					}
				}
			}
		}
	}
}

// The entry stands over all that is reached, and what Under tells is a tree of just that.
func TestUnderTheEntry(t *testing.T) {
	o := firstOdd
	for range 3000 {
		next := o.anyNet(20)
		tree, _ := dom.Tree(next)
		under := dom.Under(tree)
		all := []int{0}
		for i := 0; i < len(all); i++ {
			all = append(all, under[all[i]]...)
		}
		slices.Sort(all)
		var want []int
		for i, m := range reached(next, nobody) {
			if m {
				want = append(want, i)
			}
			wantOver(t, m, tree, 0, i)
		}
		if !slices.Equal(all, want) {
			t.Fatalf("%v: under the entry stand %v; want %v", next, all, want)
		}
	}
}
