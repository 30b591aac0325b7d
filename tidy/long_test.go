package tidy_test

import (
	"runtime/debug"
	"slices"
	"testing"

	"smithy/api"
	"smithy/graph"
	"smithy/run"
	"smithy/ssa"
	"smithy/tidy"
)

// draft is a graph with one truth as its parameter, 0, that is made block by block; it tells how many blocks will stay, and whether a run may go round in them without an end.
type draft struct {
	g     api.Graph
	stay  int
	round bool
}

func started() *draft { return &draft{g: truths(1, 1)} }

func (m *draft) truth() int {
	m.g.Vars = append(m.g.Vars, api.Bool)
	return len(m.g.Vars) - 1
}

// add puts a block behind those that are there.
func (m *draft) add(end api.Term, ins ...api.Ins) {
	m.g.Blocks = append(m.g.Blocks, block(end, ins...))
}

// sorts are graphs of about n blocks by a rule.
var sorts = []struct {
	name string
	fill func(m *draft, n int)
}{
	{"a row, each turning what the one ahead has set", turningRow},
	{"a row of empty blocks", emptyRow},
	{"a row, each third one of which is empty", mixedRow},
	{"a row of branches that choose nothing", forkRow},
	{"a row of phis of one argument", phiRow},
	{"a circle of empty blocks", emptyCircle},
	{"a circle of others", fullCircle},
	{"a circle that hands round a truth", phiCircle},
	{"branches in one another, which all come to choose nothing", cascade},
	{"branches in one another, to a block that shows something", shownCascade},
	{"diamonds of empty blocks", diamonds},
	{"diamonds of empty blocks, each of which ends in a phi", phiDiamonds},
	{"a row, from each of which a way leads by an empty block to the same", comb},
	{"a row, from each of which a way leads by an empty block to a phi", phiComb},
	{"a row, from each of which a way leads to one row of empty blocks", funnel},
	{"a row, from each of which a way leads to another place of a row of empty blocks", ladder},
	{"a row, from each of which a way leads by an empty block of a row to a phi", phiLadder},
	{"loops in a row, whose ways back are empty", loopRow},
	{"loops in loops", nested},
	{"a tree, and another one that leads together again", trees},
	{"a tree of empty blocks, and another one that leads together again", emptyTrees},
	{"a star of empty blocks to a phi", star},
}

func turningRow(m *draft, n int) {
	m.stay = 1
	v := 0
	for b := range n - 1 {
		w := m.truth()
		m.add(jump(b+1), not(w, v))
		v = w
	}
	m.add(back(v))
}

func emptyRow(m *draft, n int) {
	m.stay = 1
	for b := range n - 1 {
		m.add(jump(b + 1))
	}
	m.add(back(0))
}

func mixedRow(m *draft, n int) {
	m.stay = 1
	v := 0
	for b := range n - 1 {
		if b%3 == 1 {
			m.add(jump(b + 1))
			continue
		}
		w := m.truth()
		m.add(jump(b+1), not(w, v), show(w))
		v = w
	}
	m.add(back(v))
}

func forkRow(m *draft, n int) {
	m.stay = 1
	v := 0
	for b := range n - 1 {
		w := m.truth()
		m.add(branch(v, b+1, b+1), not(w, v))
		v = w
	}
	m.add(back(v))
}

func phiRow(m *draft, n int) {
	m.stay = 1
	v := 0
	m.add(jump(1))
	for b := 1; b < n; b++ {
		w := m.truth()
		end := jump(b + 1)
		if b == n-1 {
			end = back(w)
		}
		m.add(end, phi(w, v))
		v = w
	}
}

func emptyCircle(m *draft, n int) {
	m.stay = 2
	m.add(jump(n / 2))
	for b := 1; b < n; b++ {
		m.add(jump(1 + b%(n-1)))
	}
}

func fullCircle(m *draft, n int) {
	m.stay, m.round = 3, true
	m.add(branch(0, n/2, n-1))
	for b := 1; b < n-1; b++ {
		v := m.truth()
		m.add(jump(1+b%(n-2)), not(v, 0))
	}
	m.add(back(0), show(0))
}

// phiCircle hands a truth round, turning it now and then; it is left at its head alone.
func phiCircle(m *draft, n int) {
	m.stay, m.round = 4, true
	m.add(jump(1))
	met := m.truth()
	m.add(branch(met, 2, n-1), phi(met, 0, 0))
	v := met
	for b := 2; b < n-1; b++ {
		to := b + 1
		if b == n-2 {
			to = 1
		}
		if b%4 == 0 {
			m.add(jump(to))
			continue
		}
		w := m.truth()
		m.add(jump(to), not(w, v))
		v = w
	}
	m.g.Blocks[1].Ins[0].Args[1] = v
	m.add(back(met))
}

func cascade(m *draft, n int) {
	m.stay = 1
	for b := range n - 1 {
		m.add(branch(0, n-1, b+1))
	}
	m.add(back(0))
}

func shownCascade(m *draft, n int) {
	m.stay = 3
	m.add(branch(0, 1, n-1))
	for b := 1; b < n-3; b++ {
		m.add(branch(0, b+1, n-2))
	}
	m.add(branch(0, n-2, n-2))
	m.add(branch(0, n-2, n-1), show(0))
	m.add(back(0))
}

func diamonds(m *draft, n int) {
	m.stay = 1
	b := 0
	for ; b+3 < n; b += 3 {
		m.add(branch(0, b+1, b+2))
		m.add(jump(b + 3))
		m.add(jump(b + 3))
	}
	m.add(back(0))
}

// phiDiamonds ends each diamond in a phi: one empty block of each stays, to tell which way was gone.
func phiDiamonds(m *draft, n int) {
	last := 0
	var start []api.Ins
	for b := 0; b+3 < n; b += 3 {
		met := m.truth()
		m.add(branch(last, b+1, b+2), start...)
		m.add(jump(b + 3))
		m.add(jump(b + 3))
		start, last = []api.Ins{phi(met, last, 0)}, met
		m.stay += 2
	}
	m.add(back(last), start...)
	m.stay++
}

func comb(m *draft, n int) {
	half := n / 2
	for b := range half {
		m.add(branch(0, b+1, half+b), show(0))
	}
	m.g.Blocks[half-1].Term.To[0] = 2*half - 1
	for range half {
		m.add(jump(2 * half))
	}
	m.add(back(0), show(0))
	m.stay = half + 1
}

func phiComb(m *draft, n int) {
	half := n / 2
	args := []int{}
	for b := range half {
		v := m.truth()
		args = append(args, v)
		m.add(branch(0, b+1, half+b), number(v, uint64(b%2)))
	}
	m.g.Blocks[half-1].Term.To[0] = 2 * half
	for range half {
		m.add(jump(2 * half))
	}
	met := m.truth()
	m.add(back(met), phi(met, slices.Concat(row(0), args)...))
	m.stay = half + 2
}

// funnel leads from each block of a row on, or to the first one of a row of empty ones, which many would be handed along.
func funnel(m *draft, n int) {
	half := n / 2
	for b := range half - 1 {
		m.add(branch(0, b+1, half), show(0))
	}
	m.add(jump(half), show(0))
	for b := half; b < n-1; b++ {
		m.add(jump(b + 1))
	}
	m.add(back(0), show(0))
	m.stay = half + 1
	if half == 1 {
		m.stay = 1
	}
}

func ladder(m *draft, n int) {
	half := n / 2
	for b := range half - 1 {
		m.add(branch(0, b+1, half+b), show(0))
	}
	m.add(jump(2*half-1), show(0))
	for b := range half {
		m.add(jump(half + b + 1))
	}
	m.add(back(0), show(0))
	m.stay = half + 1
}

// phiLadder is a ladder whose row is left at each third place.
func phiLadder(m *draft, n int) {
	half := n / 2
	var ends []api.Term
	args := []int{}
	for b := range half - 1 {
		ends = append(ends, branch(0, b+1, half+b))
	}
	ends = append(ends, jump(2*half-1))
	for b := range half {
		end := jump(half + b + 1)
		if b%3 == 2 {
			end = jump(2 * half)
		}
		ends = append(ends, end)
		if end.To[0] == 2*half {
			args = append(args, b%2)
		}
	}
	one, met := m.truth(), m.truth()
	for b, end := range ends {
		switch {
		case b == 0:
			m.add(end, not(one, 0))
		case b < half:
			m.add(end, show(one))
		default:
			m.add(end)
		}
	}
	m.add(back(met), phi(met, args...), show(met))
	m.stay = half + 1
	if len(args) == 1 && half == 1 {
		m.stay = 1
	}
}

func loopRow(m *draft, n int) {
	m.add(jump(1), show(0))
	m.stay = 1
	last, end := 0, 1
	for b := 1; b+2 < n; b += 2 {
		v := m.truth()
		m.add(branch(v, b+1, b+2), phi(v, last, 0), show(v))
		m.add(jump(b))
		last, end = v, b+2
		m.stay++
	}
	m.add(back(last), show(last))
	if end > 1 {
		m.stay++
	}
}

// nested is loops in loops: the block b is the head of a loop that the block n-1-b leads back to, by an empty block or by itself.
func nested(m *draft, n int) {
	n -= 1 - n%2
	middle := n / 2
	m.add(jump(1))
	for b := 1; b < middle; b++ {
		m.add(jump(b+1), show(0))
	}
	m.add(jump(middle + 1))
	for b := middle + 1; b < n-1; b++ {
		m.add(branch(0, n-1-b, b+1))
	}
	m.add(back(0))
	m.stay = n - 2
}

// trees branch at n/3 blocks, and lead together again by as many.
func trees(m *draft, n int) {
	depth := 1
	for 3<<depth < n {
		depth++
	}
	nodes := 1<<depth - 1
	for b := range nodes {
		m.add(branch(0, min(2*b+1, 3*nodes-1-b), min(2*b+2, 3*nodes-1-b)), show(0))
	}
	m.stay = nodes + 1
	join(m, nodes, 0)
}

// join gives a tree of branches its leaves, and a tree that leads together from them to one block.
func join(m *draft, nodes, at int) {
	leaves := nodes + 1
	// What the lowest branches lead to stands right behind them; the place k of the second tree is that of its mirror in the first one.
	first := len(m.g.Blocks)
	for b := nodes / 2; b < nodes; b++ {
		m.g.Blocks[b].Term.To = [2]int{first + 2*(b-nodes/2), first + 2*(b-nodes/2) + 1}
	}
	width := leaves
	for width > 1 {
		start := len(m.g.Blocks)
		for k := range width {
			m.add(jump(start + width + k/2))
		}
		width /= 2
	}
	m.add(back(at), show(at))
}

func emptyTrees(m *draft, n int) {
	trees(m, n)
	nodes := m.stay - 1
	for b := range nodes {
		m.g.Blocks[b].Ins = nil
	}
	m.stay = 1
}

// star is a tree of branches that show something, whose leaves are empty and lead to one phi: one of each two stays.
func star(m *draft, n int) {
	depth := 1
	for 2<<depth < n {
		depth++
	}
	nodes := 1<<depth - 1
	one := m.truth()
	for b := range nodes {
		ins := show(0)
		if b == 0 {
			ins = not(one, 0)
		}
		m.add(branch(0, 2*b+1, 2*b+2), ins)
	}
	args := []int{}
	for b := range nodes + 1 {
		m.add(jump(2*nodes + 1))
		args = append(args, b%2)
	}
	met := m.truth()
	m.add(back(met), phi(met, args...))
	m.stay = nodes + (nodes+1)/2 + 1
}

// What is wanted of long graphs holds of short ones.
func TestSortsOfGraphs(t *testing.T) {
	o := maker{odds: firstOdd}
	for _, s := range sorts {
		for n := 8; n < 30; n++ {
			m := started()
			s.fill(m, n)
			wantClean(t, s.name, m.stay == len(m.g.Blocks), m.g)
			for _, g := range []api.Graph{m.g, o.renumbered(m.g)} {
				if h := wantKept(t, s.name, alone(g), 0); len(h.Blocks) != m.stay {
					t.Fatalf("%s of %d: %v becomes %v; want %d blocks", s.name, n, g, h, m.stay)
				}
			}
		}
	}
}

// wantLong asks for all that is promised of a draft's graph alone, or of the like of it; nothing that takes long is asked twice.
func wantLong(t *testing.T, what string, m *draft, g api.Graph) {
	t.Helper()
	p := alone(g)
	if is := tidy.Clean(g); is != (m.stay == len(g.Blocks)) {
		t.Fatalf("%s: Clean tells %v", what, is)
	}
	h, e := tidy.Apply(p, 0)
	if e != api.OK || len(h.Blocks) != m.stay {
		t.Fatalf("%s: %d blocks, %d; want %d", what, len(h.Blocks), e, m.stay)
	}
	q := alone(h)
	if e, at := graph.Check(q); e != api.OK || !sameFace(g, h) || !tidy.Clean(h) || !ssa.Is(h) {
		t.Fatalf("%s: it is not clean, not set once, or not right: %d, %d", what, e, at)
	}
	for seed := range uint64(2) {
		args, steps := wordsFor(g, seed), len(g.Blocks)+1000
		if m.round {
			// Each step may do as much as all blocks did.
			steps = 9
		}
		a, _ := run.Run(p, 0, args, steps, 1)
		if b, e := run.Run(q, 0, args, steps, 1); e != api.OK || !isKept(a, b) {
			t.Fatalf("%s: runs of %d are not kept", what, seed)
		}
	}
}

// Nobody calls itself along a long row, or goes along it again for each of its blocks, edges or variables: who does so ends the run, or never ends.
func TestLongGraphs(t *testing.T) {
	was := debug.SetMaxStack(1 << 20)
	defer debug.SetMaxStack(was)
	for _, s := range sorts {
		m := started()
		s.fill(m, 60003)
		wantLong(t, s.name, m, m.g)
	}
}

// By other numbers nothing is met in the order of the row.
func TestLongGraphsByOtherNumbers(t *testing.T) {
	o := maker{odds: firstOdd}
	for _, s := range sorts {
		m := started()
		s.fill(m, 10003)
		wantLong(t, s.name, m, o.renumbered(m.g))
	}
}

// backwards is a graph whose blocks, but for the entry, stand the other way round.
func backwards(g api.Graph) api.Graph {
	blocks := row(0)
	for b := len(g.Blocks) - 1; b > 0; b-- {
		blocks = append(blocks, b)
	}
	return renamed(g, blocks, counted(0, len(g.Vars)))
}

func TestLongGraphsBackwards(t *testing.T) {
	for _, s := range sorts {
		m := started()
		s.fill(m, 20003)
		wantLong(t, s.name, m, backwards(m.g))
	}
}

// A graph may have 2^20 blocks and 2^20 variables.
func TestGreatestGraphs(t *testing.T) {
	const most = 1 << 20
	for what, fill := range map[string]func(m *draft, n int){"a row that turns": turningRow, "a cascade": cascade} {
		m := started()
		fill(m, most)
		if len(m.g.Blocks) != most || len(m.g.Vars) > most {
			t.Fatalf("%s: %d blocks, %d variables", what, len(m.g.Blocks), len(m.g.Vars))
		}
		wantLong(t, what, m, m.g)
	}
	// Backwards those that come to a row of empty blocks would be handed along it one by one, if nobody took care, or looked for where it ends again and again.
	for what, fill := range map[string]func(m *draft, n int){"a ladder": ladder, "a funnel": funnel} {
		m := started()
		fill(m, most-1)
		wantLong(t, what, m, backwards(m.g))
	}
}

// Many phis in a block that is come to by many ways, all of which lead by one empty block.
func TestManyPhisOfManyWays(t *testing.T) {
	const n, k = 1000, 1000
	m := started()
	for b := range n {
		m.add(branch(0, min(b+1, n-1), n), show(0))
	}
	m.add(jump(n + 2))
	m.add(jump(n+2), show(0))
	m.g.Blocks[n-1].Term = branch(0, n+1, n)
	var phis []api.Ins
	for range k {
		phis = append(phis, phi(m.truth(), 0, 0))
	}
	m.add(back(k), phis...)
	m.stay = n + 2
	wantLong(t, "many phis of many ways", m, m.g)
	h := wantApplied(t, "many phis of many ways", alone(m.g), 0)
	if last := h.Blocks[len(h.Blocks)-1]; len(last.Ins) != k || len(last.Ins[k-1].Args) != n+1 {
		t.Errorf("%d phis", len(last.Ins))
	}
}
