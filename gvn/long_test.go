package gvn_test

import (
	"runtime/debug"
	"slices"
	"testing"

	"smithy/api"
	"smithy/graph"
	"smithy/gvn"
	"smithy/run"
)

// draft is a graph with one truth as its parameter, 0, that is made block by block; it counts what will go.
type draft struct {
	g    api.Graph
	gone int
}

func started() *draft { return &draft{g: truths(1, 1)} }

func (m *draft) newVar(t api.Type) int {
	m.g.Vars = append(m.g.Vars, t)
	return len(m.g.Vars) - 1
}

func (m *draft) truth() int { return m.newVar(api.Bool) }

// add puts a block behind those that are there.
func (m *draft) add(end api.Term, ins ...api.Ins) {
	m.g.Blocks = append(m.g.Blocks, block(end, ins...))
}

// goes is an instruction that will go.
func (m *draft) goes(x api.Ins) api.Ins {
	m.gone++
	return x
}

// sorts are graphs of about n blocks by a rule.
var sorts = []struct {
	name string
	fill func(m *draft, n int)
}{
	{"a row, each turning what the one ahead has set", turningRow},
	{"a row, each turning the parameter", sameRow},
	{"a row, each copying the one ahead", copyRow},
	{"two chains down a row, each as the other one", chains},
	{"a row of constants, each told of again by the one behind", constants},
	{"a row, from each of which a way leads aside to the same", comb},
	{"a row, from each of which a way leads aside to what was ahead", shelves},
	{"a row of which each leads to the last one, with what was reckoned ahead", manyWaysIn},
	{"a circle that hands round what was reckoned at its head", circle},
	{"loops in a row, each reckoning what the one ahead did", loopRow},
	{"loops in loops, each with what the outer one has", nested},
	{"diamonds, both sides of which reckon alike", diamonds},
	{"diamonds, each side of which reckons what was ahead", knownDiamonds},
	{"one block beside all others", star},
}

func turningRow(m *draft, n int) {
	v := m.truth()
	m.add(jump(1), not(v, 0))
	for b := 1; b < n-1; b++ {
		v = m.truth()
		m.add(jump(b+1), not(v, v-1))
	}
	m.add(back(v))
}

func sameRow(m *draft, n int) {
	v := m.truth()
	m.add(jump(1), not(v, 0))
	for b := 1; b < n-1; b++ {
		v = m.truth()
		m.add(jump(b+1), m.goes(not(v, 0)))
	}
	m.add(back(v))
}

func copyRow(m *draft, n int) {
	v := 0
	for b := range n - 1 {
		w := m.truth()
		m.add(jump(b+1), m.goes(copyOf(w, v)), show(w))
		v = w
	}
	m.add(back(v))
}

func chains(m *draft, n int) {
	v, w := m.truth(), m.truth()
	m.add(jump(1), number(v, 1), m.goes(number(w, 1)))
	for b := 1; b < n-1; b++ {
		x, y := m.truth(), m.truth()
		m.add(jump(b+1), op(api.OpEq, x, v, 0), m.goes(op(api.OpEq, y, 0, w)))
		v, w = x, y
	}
	m.add(back(w), show(v))
}

func constants(m *draft, n int) {
	for b := range n - 1 {
		x := m.newVar(api.I64)
		ins := []api.Ins{number(x, uint64(b))}
		if b > 0 {
			y := m.newVar(api.I64)
			ins = append(ins, m.goes(number(y, uint64(b-1))), show(y))
		}
		m.add(jump(b+1), ins...)
	}
	m.add(back(0))
}

// comb has a row of branches; what the blocks aside reckon stands over nothing.
func comb(m *draft, n int) {
	half := n / 2
	for b := range half {
		x := m.newVar(api.I64)
		m.add(branch(0, min(b+1, half-1), half+b), number(x, uint64(b)))
	}
	for range half {
		v, w := m.truth(), m.truth()
		m.add(back(w), not(v, 0), m.goes(not(w, 0)), show(v))
	}
}

// shelves has the same row; what the blocks aside reckon was reckoned in the one that leads there, or at the beginning.
func shelves(m *draft, n int) {
	half := n / 2
	for b := range half {
		x := m.newVar(api.I64)
		m.add(branch(0, min(b+1, half-1), half+b), number(x, uint64(b)))
	}
	for b := range half {
		x, y := m.newVar(api.I64), m.newVar(api.I64)
		ins := []api.Ins{m.goes(number(x, uint64(b))), number(y, uint64(b+1)), show(x), show(y)}
		if b > 0 {
			z := m.newVar(api.I64)
			ins = append(ins, m.goes(number(z, 0)), show(z))
		}
		m.add(back(0), ins...)
	}
}

func manyWaysIn(m *draft, n int) {
	first := m.truth()
	var args []int
	for b := range n - 1 {
		end := branch(0, b+1, n-1)
		if b == n-2 {
			end = jump(n - 1)
		}
		if b == 0 {
			args = append(args, first)
			m.add(end, not(first, 0))
			continue
		}
		v := m.truth()
		args = append(args, v)
		m.add(end, m.goes(not(v, 0)))
	}
	met, other := m.truth(), m.truth()
	m.add(back(met), phi(met, args...), phi(other, args...), show(other))
}

// circle hands a truth round, from which any block may leave.
func circle(m *draft, n int) {
	met, turned := m.truth(), m.truth()
	m.add(jump(1))
	m.add(branch(0, 2, n-1), phi(met, 0, turned+n-3), not(turned, met))
	v := turned
	for b := 2; b < n-1; b++ {
		v = m.truth()
		next, ins := b+1, copyOf(v, v-1)
		if b == n-2 {
			next = 1
		}
		if b%2 == 0 {
			ins = not(v, met)
		}
		m.add(branch(0, next, n-1), m.goes(ins))
	}
	m.add(back(met))
}

func loopRow(m *draft, n int) {
	first := m.truth()
	m.add(jump(1), not(first, 0))
	last := first
	for b := 1; b < n-1; b++ {
		v, same := m.truth(), m.truth()
		m.add(branch(0, b, b+1), phi(v, last, same), m.goes(not(same, 0)), show(v))
		last = same
	}
	m.add(back(last))
}

// nested is loops in loops: the block b is the head of a loop that the block n-1-b leads back to, as long as the parameter says so.
func nested(m *draft, n int) {
	n -= 1 - n%2
	middle := n / 2
	first := m.truth()
	m.add(jump(1), not(first, 0))
	backs := make([]int, n)
	for b := 1; b < middle; b++ {
		v := m.truth()
		m.add(jump(b+1), phi(v, first, 0))
	}
	same := m.truth()
	m.add(jump(middle+1), m.goes(not(same, 0)))
	for b := middle + 1; b < n-1; b++ {
		v := m.truth()
		backs[n-1-b] = v
		m.add(branch(0, n-1-b, b+1), m.goes(copyOf(v, same)))
		same = v
	}
	for b := 1; b < middle; b++ {
		m.g.Blocks[b].Ins[0].Args[1] = backs[b]
	}
	m.add(back(same))
}

func diamonds(m *draft, n int) {
	last := 0
	var start []api.Ins
	for b := 0; b+3 < n; b += 3 {
		one, two, met := m.truth(), m.truth(), m.truth()
		m.add(branch(last, b+1, b+2), start...)
		m.add(jump(b+3), not(one, last))
		m.add(jump(b+3), not(two, last))
		start, last = []api.Ins{phi(met, one, two)}, met
	}
	m.add(back(last), start...)
}

func knownDiamonds(m *draft, n int) {
	first := m.truth()
	start := []api.Ins{op(api.OpXor, first, 0, 0)}
	for b := 0; b+3 < n; b += 3 {
		one, two, met := m.truth(), m.truth(), m.truth()
		m.add(branch(0, b+1, b+2), start...)
		m.add(jump(b+3), m.goes(op(api.OpXor, one, 0, 0)))
		m.add(jump(b+3), m.goes(copyOf(two, first)))
		start = []api.Ins{phi(met, one, two)}
	}
	m.add(back(first), start...)
}

// star is a tree of branches whose leaves all reckon alike, in vain.
func star(m *draft, n int) {
	for b := range n {
		v := m.truth()
		ins := not(v, 0)
		if 2*b+1 >= n {
			m.add(back(v), ins)
		} else {
			m.add(branch(0, 2*b+1, min(2*b+2, n-1)))
		}
	}
}

// What is wanted of long graphs holds of short ones.
func TestSortsOfGraphs(t *testing.T) {
	for _, s := range sorts {
		for n := 6; n < 22; n++ {
			m := started()
			s.fill(m, n)
			wantClean(t, s.name, m.gone == 0, m.g)
			g := wantKept(t, s.name, alone(m.g), 0)
			if countAll(g) != countAll(m.g)-m.gone {
				t.Errorf("%s of %d: %v becomes %v; want %d instructions fewer", s.name, n, m.g, g, m.gone)
			}
		}
	}
}

// wantLong asks for all that is promised of a graph alone; nothing that takes long is asked twice.
func wantLong(t *testing.T, what string, g api.Graph, gone int) {
	t.Helper()
	p := alone(g)
	if is := gvn.Clean(g); is != (gone == 0) {
		t.Fatalf("%s: Clean tells %v", what, is)
	}
	h, e := gvn.Apply(p, 0)
	if e != api.OK || countAll(h) != countAll(g)-gone {
		t.Fatalf("%s: %d instructions, %d; want %d fewer than %d", what, countAll(h), e, gone, countAll(g))
	}
	q := alone(h)
	if e, at := graph.Check(q); e != api.OK || !sameFace(g, h) || !gvn.Clean(h) {
		t.Fatalf("%s: it is not clean, or not right: %d, %d", what, e, at)
	}
	for seed := range uint64(2) {
		args, steps := wordsFor(g, seed), len(g.Blocks)+1000
		a, _ := run.Run(p, 0, args, steps, 1)
		if b, e := run.Run(q, 0, args, steps, 1); e != api.OK || !isSame(a, b) {
			t.Fatalf("%s: runs of %d are not kept", what, seed)
		}
	}
}

// Nobody calls itself along a long row, or goes along it again for each of its blocks, edges or variables: who does so ends the run, or never ends.
func TestLongGraphs(t *testing.T) {
	was := debug.SetMaxStack(1 << 20)
	defer debug.SetMaxStack(was)
	for _, s := range sorts {
		m := started()
		s.fill(m, 60003)
		wantLong(t, s.name, m.g, m.gone)
	}
}

// By other numbers nothing is met in the order of the row, neither blocks nor variables.
func TestLongGraphsByOtherNumbers(t *testing.T) {
	o := maker{odds: firstOdd}
	for _, s := range sorts {
		m := started()
		s.fill(m, 10003)
		wantLong(t, s.name, o.renumbered(m.g), m.gone)
	}
}

// A graph may have 2^20 blocks and 2^20 variables.
func TestGreatestGraphs(t *testing.T) {
	const most = 1 << 20
	for what, fill := range map[string]func(m *draft, n int){"a row that turns": turningRow, "a row of the same": sameRow, "a row of copies": copyRow, "a circle": circle} {
		m := started()
		fill(m, most)
		if len(m.g.Blocks) != most || len(m.g.Vars) < most-2 || len(m.g.Vars) > most {
			t.Fatalf("%s: %d blocks, %d variables", what, len(m.g.Blocks), len(m.g.Vars))
		}
		wantLong(t, what, m.g, m.gone)
	}
	// One block of as many instructions as may be: constants, sums of which each other one was there already, copies.
	m := started()
	one := m.newVar(api.I64)
	ins := []api.Ins{number(one, 1)}
	last, same := one, one
	for len(m.g.Vars)+3 <= most {
		a, b, c := m.newVar(api.I64), m.newVar(api.I64), m.newVar(api.I64)
		ins = append(ins, op(api.OpAdd, a, last, one), m.goes(op(api.OpAdd, b, one, same)), m.goes(copyOf(c, b)))
		last, same = a, c
	}
	m.add(back(0), append(ins, show(same))...)
	wantLong(t, "a block of as many as may be", m.g, m.gone)
}

// Many phis of a block that is come to by many ways, whose arguments all become the same.
func TestManyPhisOfManyWays(t *testing.T) {
	const n, k = 2003, 1000
	m := started()
	manyWaysIn(m, n)
	last := &m.g.Blocks[n-1]
	var phis []api.Ins
	for range k {
		phis = append(phis, phi(m.truth(), last.Ins[0].Args...))
	}
	last.Ins = slices.Concat(phis, last.Ins)
	wantLong(t, "many phis of many ways", m.g, m.gone)
}

// What blocks beside a long row put away is taken off again, each its own alone: else it would be looked through again and again, or found where it does not stand.
func TestManyInEachBlockBeside(t *testing.T) {
	const n, k = 300, 300
	m := started()
	for b := range n {
		m.add(branch(0, min(b+1, n-1), n+b))
	}
	for range n {
		var ins []api.Ins
		for i := range k {
			v, w := m.newVar(api.I64), m.newVar(api.I64)
			ins = append(ins, number(v, uint64(i)), m.goes(copyOf(w, v)), show(w))
		}
		m.add(back(0), ins...)
	}
	wantLong(t, "many in each block beside", m.g, m.gone)
}
