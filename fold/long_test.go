package fold_test

import (
	"runtime/debug"
	"slices"
	"testing"

	"smithy/api"
	"smithy/fold"
	"smithy/run"
	"smithy/sccp"
)

// draft is a graph of truths, with one parameter, that is made block by block.
type draft struct{ g api.Graph }

func started() *draft { return &draft{truths(1, 1)} }

func (m *draft) newVar() int {
	m.g.Vars = append(m.g.Vars, api.Bool)
	return len(m.g.Vars) - 1
}

// add puts a block behind those that are there.
func (m *draft) add(end api.Term, ins ...api.Ins) {
	m.g.Blocks = append(m.g.Blocks, block(end, ins...))
}

// sorts are graphs of about n blocks by a rule; told is how many blocks and phis are left of such a one when it is folded.
var sorts = []struct {
	name string
	fill func(m *draft, n int)
	told func(blocks, phis int) (int, int)
}{
	{"a row, each turning what the one ahead has set", func(m *draft, n int) { turningRow(m, n, false) }, all},
	{"a row, each turning what comes of a parameter", func(m *draft, n int) { turningRow(m, n, true) }, all},
	{"a row of branches that are known", knownBranches, func(blocks, phis int) (int, int) { return blocks - 1, 0 }},
	{"a row whose branches all lead away", func(m *draft, n int) {
		v := m.newVar()
		m.add(branch(v, n-1, 1), number(v, 1))
		for b := 1; b < n-1; b++ {
			w := m.newVar()
			m.add(branch(w, b+1, n-1), not(w, v))
		}
		m.add(back(v))
	}, func(blocks, phis int) (int, int) { return 2, 0 }},
	{"a row of which each leads to the last one, with the same", func(m *draft, n int) { manyWaysIn(m, n, false) }, func(blocks, phis int) (int, int) { return blocks, 1 }},
	{"a row of which each leads to the last one, one with something else", func(m *draft, n int) { manyWaysIn(m, n, true) }, func(blocks, phis int) (int, int) { return blocks, 2 }},
	{"a row of which each other one leads to the last one", halfWaysIn, all},
	{"a circle that hands round what it begins with", func(m *draft, n int) { circle(m, n, false) }, func(blocks, phis int) (int, int) { return blocks, 0 }},
	{"a circle whose last block turns what it hands on", func(m *draft, n int) { circle(m, n, true) }, all},
	{"loops in a row, each handing on what it has", func(m *draft, n int) { loopRow(m, n, false) }, func(blocks, phis int) (int, int) { return blocks, 0 }},
	{"loops in a row, the first one turning what it has", func(m *draft, n int) { loopRow(m, n, true) }, all},
	{"loops in loops, with one truth", func(m *draft, n int) { nested(m, n, false) }, func(blocks, phis int) (int, int) { return blocks, 0 }},
	{"loops in loops, whose middle turns it", func(m *draft, n int) { nested(m, n, true) }, all},
	{"diamonds, each of which chooses the next one's way", diamonds, func(blocks, phis int) (int, int) { return blocks - blocks/3, 0 }},
}

func all(blocks, phis int) (int, int) { return blocks, phis }

func turningRow(m *draft, n int, param bool) {
	v := m.newVar()
	if param {
		m.add(jump(1), copyOf(v, 0))
	} else {
		m.add(jump(1), number(v, 1))
	}
	for b := 1; b < n-1; b++ {
		v = m.newVar()
		m.add(jump(b+1), not(v, v-1))
	}
	m.add(back(v))
}

// knownBranches leads on from each block, and never to the one to which all could lead.
func knownBranches(m *draft, n int) {
	for b := range n - 2 {
		v := m.newVar()
		if b%2 == 0 {
			m.add(branch(v, b+1, n-1), number(v, 1))
		} else {
			m.add(branch(v, n-1, b+1), number(v, 0))
		}
	}
	m.add(trap(1))
	met := m.newVar()
	m.add(back(met), phi(met, counted(1, n-1)...))
}

// manyWaysIn leads from each block of a row on, or to the last one, which has phis: one of what is known, which may be something else from one block, and one that nobody knows.
func manyWaysIn(m *draft, n int, odd bool) {
	var args []int
	for b := range n - 1 {
		v := m.newVar()
		args = append(args, v)
		end, word := branch(0, b+1, n-1), uint64(1)
		if b == n-2 {
			end = jump(n - 1)
		}
		if odd && b == n/2 {
			word = 0
		}
		m.add(end, number(v, word))
	}
	met, params := m.newVar(), m.newVar()
	m.add(back(met), phi(met, args...), phi(params, append(slices.Repeat(row(1), n-2), 0)...))
}

// halfWaysIn leads from each block of a row on, or to the last one, if its number is odd; of the others it is known that they don't.
func halfWaysIn(m *draft, n int) {
	var args []int
	one := m.newVar()
	for b := range n - 1 {
		v := m.newVar()
		args = append(args, v)
		end, ins := branch(v, b+1, n-1), not(v, 0)
		if b%2 == 0 {
			ins = copyOf(v, one)
		}
		if b == n-2 {
			end = jump(n - 1)
		}
		if m.add(end, ins); b == 0 {
			m.g.Blocks[0].Ins = []api.Ins{number(one, 1), ins}
		}
	}
	met := m.newVar()
	m.add(back(met), phi(met, args...))
}

// circle hands a truth round, from which any block may leave.
func circle(m *draft, n int, turns bool) {
	one := m.newVar()
	m.add(jump(1), number(one, 1))
	first := m.newVar()
	m.add(branch(0, 2, n-1), phi(first, one, first+n-3))
	for b := 2; b < n-1; b++ {
		v := m.newVar()
		next, ins := b+1, copyOf(v, v-1)
		if b == n-2 {
			next = 1
		}
		if b == n-2 && turns {
			ins = not(v, v-1)
		}
		m.add(branch(0, next, n-1), ins)
	}
	m.add(back(first))
}

func loopRow(m *draft, n int, turns bool) {
	last := m.newVar()
	m.add(jump(1), number(last, 1))
	for b := 1; b < n-1; b++ {
		v, same := m.newVar(), m.newVar()
		ins := copyOf(same, v)
		if turns && b == 1 {
			ins = not(same, v)
		}
		m.add(branch(0, b, b+1), phi(v, last, same), ins)
		last = same
	}
	m.add(back(last))
}

// nested is loops in loops: the block b is the head of a loop that the block n-1-b leads back to, as long as the parameter says so.
func nested(m *draft, n int, turns bool) {
	n -= 1 - n%2
	one := m.newVar()
	m.add(jump(1), number(one, 1))
	middle := n / 2
	out := one + middle // what the middle hands on
	for b := 1; b < middle; b++ {
		v := m.newVar()
		m.add(jump(b+1), phi(v, v-1, out))
	}
	v := m.newVar()
	if turns {
		m.add(jump(middle+1), not(v, v-1))
	} else {
		m.add(jump(middle+1), copyOf(v, v-1))
	}
	for b := middle + 1; b < n-1; b++ {
		m.add(branch(0, n-1-b, b+1))
	}
	m.add(back(out))
}

// diamonds is a row of them: which way is gone is what came of the one ahead, turned.
func diamonds(m *draft, n int) {
	choice, is := m.newVar(), true
	start := []api.Ins{number(choice, 1)}
	for b := 0; b+3 < n; b += 3 {
		one, two, met := m.newVar(), m.newVar(), m.newVar()
		m.add(branch(choice, b+1, b+2), start...)
		if is {
			m.add(jump(b+3), number(one, 0))
			m.add(jump(b+3), copyOf(two, 0))
		} else {
			m.add(jump(b+3), copyOf(one, 0))
			m.add(jump(b+3), number(two, 1))
		}
		start, choice, is = []api.Ins{phi(met, one, two)}, met, !is
	}
	m.add(back(choice), start...)
}

// What is wanted of long graphs holds of short ones.
func TestSortsOfGraphs(t *testing.T) {
	for _, s := range sorts {
		for n := 5; n < 20; n++ {
			m := started()
			s.fill(m, n)
			g := wantFolded(t, s.name, alone(m.g), 0)
			blocks, phis := s.told(len(m.g.Blocks), countIns(m.g, api.InsPhi))
			if len(g.Blocks) != blocks || countIns(g, api.InsPhi) != phis {
				t.Errorf("%s of %d: %v becomes %v; want %d blocks, %d phis", s.name, n, m.g, g, blocks, phis)
			}
		}
	}
}

// wantLong asks for all that is promised of a graph alone; nothing that takes long is asked twice.
func wantLong(t *testing.T, what string, g api.Graph, blocks, phis int) {
	t.Helper()
	p := alone(g)
	x, e := sccp.Solve(p, 0)
	if e != api.OK {
		t.Fatalf("%s: Solve tells %d", what, e)
	}
	h, e := fold.Apply(p, 0, x)
	if e != api.OK || len(h.Blocks) != blocks || countIns(h, api.InsPhi) != phis {
		t.Fatalf("%s: %d blocks, %d phis, %d; want %d and %d", what, len(h.Blocks), countIns(h, api.InsPhi), e, blocks, phis)
	}
	q := alone(h)
	// Solve takes just what is right and set once.
	if y, e := sccp.Solve(q, 0); e != api.OK || !sameFace(g, h) || !isFolded(h, y) {
		t.Fatalf("%s: it is not folded, %d", what, e)
	}
	for seed := range uint64(2) {
		args, steps := wordsFor(g, seed), len(g.Blocks)+1000
		a, _ := run.Run(p, 0, args, steps, 1)
		if b, e := run.Run(q, 0, args, steps, 1); e != api.OK || !isKept(a, b) {
			t.Fatalf("%s: runs of %d are not kept", what, seed)
		}
	}
}

// wantOtherFacts asks what becomes of a long graph by facts that know nothing, and by some that do not hold.
func wantOtherFacts(t *testing.T, what string, g api.Graph) {
	t.Helper()
	x := highest(g)
	if h, e := fold.Apply(alone(g), 0, x); e != api.OK || !sameGraph(g, h) {
		t.Fatalf("%s: by facts that know nothing it is told otherwise, %d", what, e)
	}
	x.Reached[len(g.Blocks)-1] = false
	if _, e := fold.Apply(alone(g), 0, x); e != api.ErrArg {
		t.Fatalf("%s: by facts that do not hold Apply tells %d", what, e)
	}
}

// Nobody calls itself along a long row, or goes along it again for each of its blocks, edges or variables: who does so ends the run, or never ends.
func TestLongGraphs(t *testing.T) {
	was := debug.SetMaxStack(1 << 20)
	defer debug.SetMaxStack(was)
	for _, s := range sorts {
		m := started()
		s.fill(m, 60003)
		blocks, phis := s.told(len(m.g.Blocks), countIns(m.g, api.InsPhi))
		wantLong(t, s.name, m.g, blocks, phis)
		wantOtherFacts(t, s.name, m.g)
	}
}

// By other numbers nothing is met in the order of the row, neither blocks nor variables.
func TestLongGraphsByOtherNumbers(t *testing.T) {
	o := maker{odds: firstOdd}
	for _, s := range sorts {
		m := started()
		s.fill(m, 10003)
		blocks, phis := s.told(len(m.g.Blocks), countIns(m.g, api.InsPhi))
		wantLong(t, s.name, o.renumbered(m.g), blocks, phis)
	}
}

// A graph may have 2^20 blocks and 2^20 variables.
func TestGreatestGraphs(t *testing.T) {
	const most = 1 << 20
	m := started()
	turningRow(m, most, false)
	wantLong(t, "as many blocks and variables as may be", m.g, most, 0)
	m = started()
	circle(m, most, true)
	wantLong(t, "a circle of as many blocks and variables as may be", m.g, most, 1)
	m = started()
	knownBranches(m, most)
	wantLong(t, "as many branches as may be", m.g, most-1, 0)
	// A block of as many phis as may be, each other one known.
	m = started()
	one := m.newVar()
	m.add(branch(0, 1, 2), number(one, 1))
	m.add(jump(2))
	var phis []api.Ins
	for v := range most - 2 {
		phis = append(phis, phi(m.newVar(), one, v%2))
	}
	m.add(back(0), phis...)
	wantLong(t, "as many phis as may be", m.g, 3, (most-2)/2)
}

// Many phis of a block that is come to by many ways, half of which go.
func TestManyPhisOfManyWays(t *testing.T) {
	const n, k = 2003, 1000
	m := started()
	halfWaysIn(m, n)
	last := &m.g.Blocks[n-1]
	for range k {
		last.Ins = append(last.Ins, phi(m.newVar(), last.Ins[0].Args...))
	}
	wantLong(t, "many phis of many ways", m.g, n, k+1)
}
