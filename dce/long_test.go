package dce_test

import (
	"runtime/debug"
	"slices"
	"testing"

	"smithy/api"
	"smithy/dce"
	"smithy/graph"
	"smithy/run"
)

// draft is a graph with one truth as its parameter, 0, that is made block by block, with what must be said of it. Somebody asks for what it makes, or nobody does.
type draft struct {
	g      api.Graph
	asked  bool
	needed []bool
	gone   int
}

func started(asked bool) *draft {
	return &draft{g: truths(1, 1), asked: asked, needed: []bool{asked}}
}

// truth is a new variable, needed if somebody asks.
func (m *draft) truth() int {
	m.g.Vars, m.needed = append(m.g.Vars, api.Bool), append(m.needed, m.asked)
	return len(m.g.Vars) - 1
}

// add puts a block behind those that are there. If nobody asks, all that does nothing but set will go.
func (m *draft) add(end api.Term, ins ...api.Ins) {
	m.g.Blocks = append(m.g.Blocks, block(end, ins...))
	if end.Kind == api.TermBranch {
		m.needed[end.Arg] = true
	}
	for _, x := range ins {
		if x.Kind != api.InsCall && sets(x) && !m.asked {
			m.gone++
		}
	}
}

// end is one that asks for a variable, if somebody does.
func (m *draft) end(v int) api.Term {
	if m.asked {
		return back(v)
	}
	return trap(1)
}

// sorts are graphs of about n blocks by a rule.
var sorts = []struct {
	name string
	fill func(m *draft, n int)
}{
	{"a row, each turning what the one ahead has set", rowDown},
	{"a row, each turning what the one behind sets", rowUp},
	{"a row, each setting the same variable", sameRow},
	{"a row, each setting two variables to one another", turnsRow},
	{"a row, each laying to what was ahead what it asks of one variable", gatheringRow},
	{"a row of calls, each of what the one ahead has told", callRow},
	{"a row, from each of which a way leads aside to who asks", comb},
	{"a row of which each leads to the last one", manyWaysIn},
	{"a circle", circle},
	{"a circle that hands round as many as it has blocks", wideCircle},
	{"loops in a row", loopRow},
	{"diamonds", diamonds},
}

func rowDown(m *draft, n int) {
	v := 0
	for b := range n - 1 {
		w := m.truth()
		m.add(jump(b+1), not(w, v))
		v = w
	}
	m.add(m.end(v))
}

func rowUp(m *draft, n int) {
	m.needed[0] = false
	v := m.truth()
	for b := range n - 1 {
		w := m.truth()
		m.add(jump(b+1), not(v, w))
		v = w
	}
	m.add(m.end(1))
}

func sameRow(m *draft, n int) {
	m.needed[0] = false
	same := m.truth()
	for b := range n - 1 {
		v := m.truth()
		m.add(jump(b+1), number(v, uint64(b%2)), copyOf(same, v))
	}
	m.add(m.end(same))
}

func turnsRow(m *draft, n int) {
	v, w := m.truth(), m.truth()
	for b := range n - 1 {
		m.add(jump(b+1), op(api.OpXor, v, w, 0), op(api.OpEq, w, v, v), copyOf(v, w))
	}
	m.add(m.end(v))
}

func gatheringRow(m *draft, n int) {
	v := 0
	for b := range n - 1 {
		w, x := m.truth(), m.truth()
		m.add(jump(b+1), not(w, 0), op(api.OpXor, x, w, v))
		v = x
	}
	m.add(m.end(v))
}

// callRow asks whether somebody asks or not: only what the last call tells hangs on that.
func callRow(m *draft, n int) {
	v := 0
	for b := range n - 1 {
		w := m.truth()
		m.add(jump(b+1), call(0, w, v))
		m.needed[v] = true
		v = w
	}
	m.add(m.end(v))
}

func comb(m *draft, n int) {
	half := n / 2
	for b := range half {
		v := m.truth()
		m.add(branch(0, min(b+1, half-1), half+b), not(v, 0))
	}
	for b := range half {
		v := m.truth()
		m.add(m.end(v), not(v, b+1))
	}
}

func manyWaysIn(m *draft, n int) {
	var args []int
	for b := range n - 1 {
		v := m.truth()
		end := branch(0, b+1, n-1)
		if b == n-2 {
			end = jump(n - 1)
		}
		m.add(end, not(v, 0))
		args = append(args, v)
	}
	met, other := m.truth(), m.truth()
	m.needed[other] = false
	m.add(m.end(met), phi(met, args...), phi(other, args...))
	if m.asked {
		m.gone++
	}
}

// circle hands a truth round, from which any block may leave.
func circle(m *draft, n int) {
	met := m.truth()
	v := met
	m.add(jump(1))
	for b := 1; b < n-1; b++ {
		next, w := b+1, m.truth()
		ins := []api.Ins{not(w, v)}
		if b == 1 {
			ins = []api.Ins{phi(met, 0, met+n-2), not(w, v)}
		}
		if b == n-2 {
			next = 1
		}
		m.add(branch(0, next, n-1), ins...)
		v = w
	}
	m.add(m.end(met))
}

// wideCircle has a head whose phis each ask the one behind it, the last one the first one.
func wideCircle(m *draft, n int) {
	var phis []api.Ins
	first := len(m.g.Vars)
	for i := range n {
		v := m.truth()
		phis = append(phis, phi(v, 0, first+(i+1)%n))
	}
	m.add(jump(1))
	m.add(branch(0, 1, 2), phis...)
	m.add(m.end(first))
}

func loopRow(m *draft, n int) {
	last := 0
	m.add(jump(1))
	for b := 1; b < n-1; b++ {
		v, w := m.truth(), m.truth()
		m.add(branch(0, b, b+1), phi(v, last, w), not(w, v))
		last = w
	}
	m.add(m.end(last))
}

func diamonds(m *draft, n int) {
	last := 0
	var start []api.Ins
	for b := 0; b+3 < n; b += 3 {
		one, two, met := m.truth(), m.truth(), m.truth()
		m.add(branch(0, b+1, b+2), start...)
		m.add(jump(b+3), not(one, last))
		m.add(jump(b+3), op(api.OpXor, two, last, last))
		start, last = []api.Ins{phi(met, one, two)}, met
	}
	m.add(m.end(last), start...)
}

// What is wanted of long graphs holds of short ones.
func TestSortsOfGraphs(t *testing.T) {
	for _, s := range sorts {
		for _, asked := range []bool{true, false} {
			for n := 6; n < 22; n++ {
				m := started(asked)
				s.fill(m, n)
				wantTold(t, s.name, neededByWords(m.g), m.g)
				wantTold(t, s.name, m.needed, m.g)
				g := wantKept(t, s.name, alone(m.g), 0)
				if countAll(g) != countAll(m.g)-m.gone {
					t.Errorf("%s of %d: %v becomes %v; want %d instructions fewer", s.name, n, m.g, g, m.gone)
				}
			}
		}
	}
}

// wantLong asks for all that is promised of a graph alone; nothing that takes long is asked twice.
func wantLong(t *testing.T, what string, m *draft) {
	t.Helper()
	p := alone(m.g)
	if !slices.Equal(dce.Needed(m.g), m.needed) {
		t.Fatalf("%s: other variables are needed", what)
	}
	h, e := dce.Apply(p, 0)
	if e != api.OK || countAll(h) != countAll(m.g)-m.gone || len(h.Blocks) != len(m.g.Blocks) || !slices.Equal(h.Vars, m.g.Vars) {
		t.Fatalf("%s: %d instructions, %d; want %d fewer than %d", what, countAll(h), e, m.gone, countAll(m.g))
	}
	q := alone(h)
	if e, at := graph.Check(q); e != api.OK {
		t.Fatalf("%s: it is not right: %d, %d", what, e, at)
	}
	for seed := range uint64(2) {
		args, steps := wordsFor(m.g, seed), len(m.g.Blocks)+1000
		a, _ := run.Run(p, 0, args, steps, 2)
		if b, e := run.Run(q, 0, args, steps, 2); e != api.OK || !isSame(a, b) {
			t.Fatalf("%s: runs of %d are not kept", what, seed)
		}
	}
}

// Nobody calls itself along a long row, or goes along it again for each of its blocks, edges or variables: who does so ends the run, or never ends.
func TestLongGraphs(t *testing.T) {
	was := debug.SetMaxStack(1 << 20)
	defer debug.SetMaxStack(was)
	for _, s := range sorts {
		for _, asked := range []bool{true, false} {
			m := started(asked)
			s.fill(m, 100002)
			wantLong(t, s.name, m)
		}
	}
}

// By other numbers nothing is met in the order of the row, neither blocks nor variables.
func TestLongGraphsByOtherNumbers(t *testing.T) {
	o := maker{odds: firstOdd}
	for _, s := range sorts {
		m := started(true)
		s.fill(m, 20002)
		vars := o.shuffled(len(m.g.Vars))
		needed := make([]bool, len(vars))
		for v, w := range vars {
			needed[w] = m.needed[v]
		}
		m.g, m.needed = renamed(m.g, o.shuffledBlocks(len(m.g.Blocks)), vars), needed
		wantLong(t, s.name, m)
	}
}

// A graph may have 2^20 blocks and 2^20 variables.
func TestGreatestGraphs(t *testing.T) {
	const most = 1 << 20
	was := debug.SetMaxStack(1 << 20)
	defer debug.SetMaxStack(was)
	for what, fill := range map[string]func(m *draft, n int){"a row down": rowDown, "a circle": circle, "a row of calls": callRow} {
		for _, asked := range []bool{true, false} {
			m := started(asked)
			fill(m, most)
			if len(m.g.Blocks) != most || len(m.g.Vars) < most-1 || len(m.g.Vars) > most {
				t.Fatalf("%s: %d blocks, %d variables", what, len(m.g.Blocks), len(m.g.Vars))
			}
			wantLong(t, what, m)
		}
	}
}

// One block of as many instructions as there may be variables, and of twice as many: down, up, and each variable set anew.
func TestChainsInOneBlock(t *testing.T) {
	const most = 1 << 20
	for _, asked := range []bool{true, false} {
		down, up, anew := started(asked), started(asked), started(asked)
		var ins []api.Ins
		for v := 1; v < most; v++ {
			ins = append(ins, not(down.truth(), v-1))
			up.truth()
			anew.truth()
		}
		down.add(down.end(most-1), ins...)
		wantLong(t, "down", down)
		up.needed[0] = asked
		slices.Reverse(ins)
		up.add(up.end(most-1), ins...)
		wantLong(t, "up", up)
		for v := 1; v < most; v++ {
			ins = append(ins, copyOf(most-v, v-1))
		}
		anew.add(anew.end(most-1), ins...)
		wantLong(t, "anew", anew)
	}
}

// All blocks, variables and instructions are asked at once, and some of them for all others.
func TestManyPhisOfManyWays(t *testing.T) {
	const n, k = 2003, 1000
	for _, asked := range []bool{true, false} {
		m := started(asked)
		manyWaysIn(m, n)
		last := &m.g.Blocks[n-1]
		var phis []api.Ins
		for range k {
			v := m.truth()
			phis = append(phis, phi(v, last.Ins[0].Args...))
			if m.asked {
				last.Ins = append(last.Ins, show(v))
			} else {
				m.gone++
			}
		}
		last.Ins = slices.Concat(phis, last.Ins)
		wantLong(t, "many phis of many ways", m)
	}
}

// Calls may have as many Args as they like, in a graph by itself.
func TestCallsOfVeryManyArgs(t *testing.T) {
	const most = 1 << 20
	needed := func(n int) []bool { return slices.Repeat([]bool{true}, n) }
	g := truths(0, most, block(trap(1), call(0, 0, counted(0, most)...)))
	wantManyNeeded(t, "all of them", g, needed(most))
	args := slices.Repeat(counted(0, most-1), 3)
	slices.Reverse(args)
	g = truths(0, most, block(trap(1), call(0, most-1, args...), call(9, most-1, args...)))
	wantManyNeeded(t, "all but the last one, three times in two calls", g, append(needed(most-1), false))
	// What one call after the other asks is asked of as many settings.
	g = truths(0, 2000, block(trap(1)))
	for v := range 2000 {
		g.Blocks[0].Ins = append(g.Blocks[0].Ins, call(v, v, counted(0, 1999)...), copyOf(1998, v))
	}
	wantManyNeeded(t, "calls of calls", g, needed(2000))
	// Nobody asks for what some phis ask.
	g = truths(1, 0)
	g.Params = nil
	g.Vars = slices.Repeat([]api.Type{api.Bool}, 5)
	const n = 1 << 18
	for b := range n {
		g.Blocks = append(g.Blocks, block(branch(0, min(b+1, n-1), n)))
	}
	g.Blocks = append(g.Blocks, block(back(1), phi(1, slices.Repeat(row(1), n)...), phi(2, slices.Repeat(row(3), n)...), phi(3, slices.Repeat(row(2, 4), n/2)...)))
	wantManyNeeded(t, "phis of very many", g, []bool{true, true, false, false, false})
	g.Blocks[n].Ins = append(g.Blocks[n].Ins, show(2))
	wantManyNeeded(t, "phis of very many, one of which is asked", g, []bool{true, true, true, true, true})
}

func wantManyNeeded(t *testing.T, what string, g api.Graph, want []bool) {
	t.Helper()
	if !slices.Equal(dce.Needed(g), want) {
		t.Errorf("%s: other variables are needed", what)
	}
}
