package sccp_test

import (
	"runtime/debug"
	"slices"
	"testing"

	"smithy/api"
	"smithy/sccp"
)

// draft is a graph of truths that is made block by block, with the facts that are wanted of it.
type draft struct {
	g api.Graph
	x api.Facts
}

// newVar is a variable of which that cell is wanted.
func (m *draft) newVar(c api.Cell) int {
	m.g.Vars = append(m.g.Vars, api.Bool)
	m.x.Cells = append(m.x.Cells, c)
	return len(m.g.Vars) - 1
}

// add puts a block behind those that are there; whether it is reached, and by what edges it is left, is written as 1 and 0.
func (m *draft) add(facts string, end api.Term, ins ...api.Ins) {
	m.g.Blocks = append(m.g.Blocks, block(end, ins...))
	m.x.Reached = append(m.x.Reached, facts[0] == '1')
	m.x.Edges = append(m.x.Edges, [2]bool{facts[1] == '1', facts[2] == '1'})
}

// started is a graph with a parameter, 0, and no block yet.
func started() *draft {
	m := &draft{g: truths(1, 0)}
	m.newVar(varying)
	return m
}

// truth is a cell that is known to be true or false.
func truth(is bool) api.Cell {
	if is {
		return known(1)
	}
	return known(0)
}

// sorts are graphs of about n blocks by a rule.
var sorts = []struct {
	name string
	fill func(m *draft, n int)
}{
	{"a row, each turning what the one ahead has set", func(m *draft, n int) { turningRow(m, n, false) }},
	{"a row, each turning what comes of a parameter", func(m *draft, n int) { turningRow(m, n, true) }},
	{"a block that turns what it has set, again and again", func(m *draft, n int) {
		v := m.newVar(known(1))
		ins := []api.Ins{number(v, 1)}
		for i := range n {
			v = m.newVar(truth(i%2 == 1))
			ins = append(ins, not(v, v-1))
		}
		m.add("100", back(v), ins...)
	}},
	{"a row of branches that are known", knownBranches},
	{"a row of which each leads to the last one, with the same", func(m *draft, n int) { manyWaysIn(m, n, -1) }},
	{"a row of which each leads to the last one, the first one with something else", func(m *draft, n int) { manyWaysIn(m, n, 0) }},
	{"a row of which each leads to the last one, the last one with something else", func(m *draft, n int) { manyWaysIn(m, n, n-2) }},
	{"a circle that hands round what it begins with", func(m *draft, n int) { circle(m, n, false) }},
	{"a circle whose last block turns what it hands on", func(m *draft, n int) { circle(m, n, true) }},
	{"loops in a row, each left only when it has been gone round", func(m *draft, n int) {
		one := m.newVar(known(1))
		m.add("110", jump(1), number(one, 1))
		for b := 1; b < n-1; b++ {
			v, turned := m.newVar(varying), m.newVar(varying)
			m.add("111", branch(v, b, b+1), phi(v, one, turned), not(turned, v))
		}
		m.add("100", back(one))
	}},
	{"loops in a row, each handing on what it has", func(m *draft, n int) { loopRow(m, n, false) }},
	{"loops in a row, the first one turning what it has", func(m *draft, n int) { loopRow(m, n, true) }},
	{"loops in loops, with one truth", func(m *draft, n int) { nested(m, n, false) }},
	{"loops in loops, whose middle turns it", func(m *draft, n int) { nested(m, n, true) }},
	{"diamonds, each of which chooses the next one's way", diamonds},
	{"a variable that all ask", func(m *draft, n int) {
		one := m.newVar(known(1))
		m.add("110", jump(1), number(one, 1))
		for b := 1; b < n-1; b++ {
			v, w := m.newVar(known(1)), m.newVar(varying)
			m.add("110", jump(b+1), op(api.OpEq, v, one, one), op(api.OpAnd, w, one, 0))
		}
		m.add("100", back(one))
	}},
}

func turningRow(m *draft, n int, param bool) {
	cell := func(b int) api.Cell {
		if param {
			return varying
		}
		return truth(b%2 == 0)
	}
	v := m.newVar(cell(0))
	if param {
		m.add("110", jump(1), copyOf(v, 0))
	} else {
		m.add("110", jump(1), number(v, 1))
	}
	for b := 1; b < n-1; b++ {
		v = m.newVar(cell(b))
		m.add("110", jump(b+1), not(v, v-1))
	}
	m.add("100", back(v))
}

// knownBranches leads on from each block, and never to the one to which all could lead; what is set there nobody knows.
func knownBranches(m *draft, n int) {
	for b := range n - 2 {
		v := m.newVar(truth(b%2 == 0))
		if b%2 == 0 {
			m.add("110", branch(v, b+1, n-1), number(v, 1))
		} else {
			m.add("101", branch(v, n-1, b+1), number(v, 0))
		}
	}
	m.add("100", trap(1))
	met := m.newVar(unseen)
	m.add("000", back(met), phi(met, counted(1, n-1)...))
}

// manyWaysIn leads from each block of a row on, or to the last one, which has phis: one of them meets something else from one block.
func manyWaysIn(m *draft, n, odd int) {
	var args []int
	one := m.newVar(known(1))
	for b := range n - 1 {
		v := m.newVar(truth(b != odd))
		args = append(args, v)
		end, facts := branch(0, b+1, n-1), "111"
		if b == n-2 {
			end, facts = jump(n-1), "110"
		}
		ins := []api.Ins{number(v, m.x.Cells[v].Bits)}
		if b == 0 {
			ins = append(ins, number(one, 1))
		}
		m.add(facts, end, ins...)
	}
	met, same, params := m.newVar(known(1)), m.newVar(known(1)), m.newVar(varying)
	if odd >= 0 {
		m.x.Cells[met] = varying
	}
	m.add("100", back(met), phi(met, args...), phi(same, slices.Repeat(row(one), n-1)...), phi(params, append(slices.Repeat(row(one), n-2), 0)...))
}

// circle hands a truth round, from which any block may leave.
func circle(m *draft, n int, turns bool) {
	cell := known(1)
	if turns {
		cell = varying
	}
	one := m.newVar(known(1))
	m.add("110", jump(1), number(one, 1))
	first := m.newVar(cell)
	last := first + n - 3
	m.add("111", branch(0, 2, n-1), phi(first, one, last))
	for b := 2; b < n-1; b++ {
		v := m.newVar(cell)
		next, ins := b+1, copyOf(v, v-1)
		if b == n-2 {
			next = 1
		}
		if b == n-2 && turns {
			ins = not(v, v-1)
		}
		m.add("111", branch(0, next, n-1), ins)
	}
	m.add("100", back(first))
}

func loopRow(m *draft, n int, turns bool) {
	cell := known(1)
	if turns {
		cell = varying
	}
	last := m.newVar(known(1))
	m.add("110", jump(1), number(last, 1))
	for b := 1; b < n-1; b++ {
		v, same := m.newVar(cell), m.newVar(cell)
		ins := copyOf(same, v)
		if turns && b == 1 {
			ins = not(same, v)
		}
		m.add("111", branch(0, b, b+1), phi(v, last, same), ins)
		last = same
	}
	m.add("100", back(last))
}

// nested is loops in loops: the block b is the head of a loop that the block n-1-b leads back to, as long as the parameter says so.
func nested(m *draft, n int, turns bool) {
	n -= 1 - n%2
	cell := known(1)
	if turns {
		cell = varying
	}
	one := m.newVar(known(1))
	m.add("110", jump(1), number(one, 1))
	middle := n / 2
	out := one + middle // what the middle hands on
	for b := 1; b < middle; b++ {
		v := m.newVar(cell)
		m.add("110", jump(b+1), phi(v, v-1, out))
	}
	v := m.newVar(cell)
	if turns {
		m.add("110", jump(middle+1), not(v, v-1))
	} else {
		m.add("110", jump(middle+1), copyOf(v, v-1))
	}
	for b := middle + 1; b < n-1; b++ {
		m.add("111", branch(0, n-1-b, b+1))
	}
	m.add("100", back(out))
}

// diamonds is a row of them: which way is gone is what came of the one ahead, turned.
func diamonds(m *draft, n int) {
	choice := m.newVar(known(1))
	start := []api.Ins{number(choice, 1)}
	for b := 0; b+3 < n; b += 3 {
		is := m.x.Cells[choice] == known(1)
		one, two := m.newVar(unseen), m.newVar(unseen)
		met := m.newVar(truth(!is))
		if is {
			m.x.Cells[one] = known(0)
			m.add("110", branch(choice, b+1, b+2), start...)
			m.add("110", jump(b+3), number(one, 0))
			m.add("000", jump(b+3), copyOf(two, 0))
		} else {
			m.x.Cells[two] = known(1)
			m.add("101", branch(choice, b+1, b+2), start...)
			m.add("000", jump(b+3), copyOf(one, 0))
			m.add("110", jump(b+3), number(two, 1))
		}
		start, choice = []api.Ins{phi(met, one, two)}, met
	}
	m.add("100", back(choice), start...)
}

// What is wanted of long graphs is what the words say of short ones.
func TestSortsOfGraphs(t *testing.T) {
	for _, s := range sorts {
		for n := 5; n < 20; n++ {
			m := started()
			s.fill(m, n)
			wantFacts(t, s.name, m.g, m.x)
		}
	}
}

// wantLong asks for just these facts, that they hold, and that others do not.
func wantLong(t *testing.T, what string, g api.Graph, want api.Facts) {
	t.Helper()
	p := []api.Graph{g}
	x, e := sccp.Solve(p, 0)
	if e != api.OK || !sameFacts(x, want) {
		t.Fatalf("%s of %d blocks and %d variables is told otherwise, %d", what, len(g.Blocks), len(g.Vars), e)
	}
	if !sccp.Holds(p, 0, x) || !sccp.Holds(p, 0, highest(g)) {
		t.Fatalf("%s of %d blocks and %d variables: facts do not hold", what, len(g.Blocks), len(g.Vars))
	}
	last := len(g.Vars) - 1
	for x.Cells[last] == unseen {
		last--
	}
	if x.Cells[last] = unseen; sccp.Holds(p, 0, x) {
		t.Fatalf("%s of %d blocks and %d variables: other facts hold", what, len(g.Blocks), len(g.Vars))
	}
}

// Nobody calls itself along a long row, or goes along it again for each of its blocks, edges or variables: who does so ends the run, or never ends.
func TestLongGraphs(t *testing.T) {
	was := debug.SetMaxStack(1 << 20)
	defer debug.SetMaxStack(was)
	for _, s := range sorts {
		m := started()
		s.fill(m, 100003)
		wantLong(t, s.name, m.g, m.x)
	}
}

// By other numbers nothing is met in the order of the row, neither blocks nor variables.
func TestLongGraphsByOtherNumbers(t *testing.T) {
	o := maker{odds: firstOdd}
	for _, s := range sorts {
		for _, n := range []int{14, 20003} {
			m := started()
			s.fill(m, n)
			for _, blocks := range [][]int{o.shuffledBlocks(len(m.g.Blocks)), turnedRound(len(m.g.Blocks))} {
				vars := o.shuffled(len(m.g.Vars))
				wantLong(t, s.name, renamed(m.g, blocks, vars), renamedFacts(m.x, blocks, vars))
			}
		}
	}
}

// turnedRound is numbers by which all blocks but the entry stand the other way round.
func turnedRound(n int) []int {
	l := row(0)
	for i := n - 1; i > 0; i-- {
		l = append(l, i)
	}
	return l
}

// A graph may have 2^20 blocks and 2^20 variables.
func TestGreatestGraphs(t *testing.T) {
	const most = 1 << 20
	m := started()
	turningRow(m, most, false)
	wantLong(t, "as many blocks and variables as may be", m.g, m.x)
	m = started()
	circle(m, most, true)
	wantLong(t, "a circle of as many blocks and variables as may be", m.g, m.x)
	m = started()
	m.newVar(varying)
	phis := []api.Ins{}
	m.g.Params = row(0, 1)
	m.add("111", branch(0, 1, 2))
	m.add("110", jump(2))
	for range most - 2 {
		v := m.newVar(varying)
		phis = append(phis, phi(v, 0, 1))
	}
	m.add("100", back(0), phis...)
	wantLong(t, "a block of as many phis as may be", m.g, m.x)
}

// Many phis of a block that is come to by many ways, which are found one by one.
func TestManyPhisOfManyWays(t *testing.T) {
	const n, k = 2003, 1000
	for _, odd := range []int{-1, 0, n - 2} {
		m := started()
		var args [][]int
		for range k {
			args = append(args, nil)
		}
		for b := range n - 1 {
			v := m.newVar(truth(b != odd))
			for i := range args {
				args[i] = append(args[i], v)
			}
			end, facts := branch(0, b+1, n-1), "111"
			if b == n-2 {
				end, facts = jump(n-1), "110"
			}
			m.add(facts, end, number(v, m.x.Cells[v].Bits))
		}
		var phis []api.Ins
		for i := range args {
			v := m.newVar(known(1))
			if odd >= 0 {
				m.x.Cells[v] = varying
			}
			phis = append(phis, phi(v, args[i]...))
		}
		m.add("100", trap(1), phis...)
		wantLong(t, "many phis of many ways", m.g, m.x)
	}
}
