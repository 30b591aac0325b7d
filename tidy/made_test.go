package tidy_test

import (
	"slices"
	"testing"

	"smithy/api"
	"smithy/graph"
	"smithy/ssa"
	"smithy/tidy"
)

// tally is how much has changed.
type tally struct {
	clean, fewer, copies, phis, longer, branches int // clean ahead already, blocks that went, phis that became copies, phis that stay, those of them with more arguments, branches that became jumps
	steps                                        int // of runs that end, fewer now
	ends                                         map[api.End]int
}

func (c *tally) add(was, is api.Graph) {
	if isClean(was) {
		c.clean++
	}
	c.fewer += len(was.Blocks) - len(is.Blocks)
	c.copies += countIns(is, api.InsCopy) - countIns(was, api.InsCopy)
	c.phis += countIns(is, api.InsPhi)
	had := argsOf(was)
	for v, n := range argsOf(is) {
		if n > had[v] {
			c.longer++
		}
	}
	c.branches += countEnds(was, api.TermBranch) - countEnds(is, api.TermBranch)
}

// argsOf is how many arguments the phi of each variable has that has one.
func argsOf(g api.Graph) map[int]int {
	n := map[int]int{}
	for _, b := range g.Blocks {
		for _, x := range b.Ins {
			if isPhi(x) {
				n[x.Dst] = len(x.Args)
			}
		}
	}
	return n
}

func countEnds(g api.Graph, kind api.TermKind) int {
	n := 0
	for _, b := range g.Blocks {
		if b.Term.Kind == kind {
			n++
		}
	}
	return n
}

// run asks for what must be of a run of both programs, and counts it.
func (c *tally) run(t *testing.T, p, q []api.Graph, f int, args []uint64, steps, depth int) {
	t.Helper()
	a, b := wantNoMore(t, "a made program", p, q, f, args, steps, depth)
	c.ends[a.End]++
	if a.End == api.Told || a.End == api.Trapped {
		c.steps += a.Steps - b.Steps
	}
}

// P18.2 of programs without a pattern, their runs cut off anywhere.
func TestMadePrograms(t *testing.T) {
	m := maker{odds: firstOdd}
	c := tally{ends: map[api.End]int{}}
	for range 8000 {
		p, f := m.program()
		g := wantKept(t, "a made program", p, f)
		c.add(p[f], g)
		q := with(p, f, g)
		from, words := m.below(len(p)), m.number()
		for steps := range 14 {
			c.run(t, p, q, from, wordsFor(p[from], words), steps, 1+m.below(5))
		}
		c.run(t, p, q, from, wordsFor(p[from], words), 300, 5)
	}
	if c.clean < 500 || c.fewer < 10000 || c.copies < 2000 || c.phis < 5000 || c.longer < 200 || c.branches < 2000 || c.steps < 10000 {
		t.Errorf("%+v", c)
	}
	for _, end := range []api.End{api.Told, api.Trapped, api.Steps, api.Deep} {
		if c.ends[end] < 300 {
			t.Errorf("%d ended with %d", c.ends[end], end)
		}
	}
}

// What nobody needs to put together stays: all instructions are as many as they were, phis and copies taken together; what is set is set once more; all that is no phi and no jump is as it was.
func TestInstructionsStay(t *testing.T) {
	m := maker{odds: firstOdd}
	for range 3000 {
		p, f := m.program()
		g := wantApplied(t, "a made program", p, f)
		for kind := api.InsConst; kind <= api.InsPrint; kind++ {
			if kind != api.InsCopy && countIns(g, kind) != countIns(p[f], kind) {
				t.Fatalf("%v becomes %v", p[f], g)
			}
		}
		phis, copies := countIns(p[f], api.InsPhi)-countIns(g, api.InsPhi), countIns(g, api.InsCopy)-countIns(p[f], api.InsCopy)
		if phis != copies || phis < 0 {
			t.Fatalf("%v becomes %v", p[f], g)
		}
		for _, kind := range []api.TermKind{api.TermReturn, api.TermTrap} {
			if countEnds(g, kind) != countEnds(p[f], kind) {
				t.Fatalf("%v becomes %v", p[f], g)
			}
		}
	}
}

// P18.1 of graphs of programs without a pattern, some of them bent, some of them told and bent.
func TestCleanOfMadeGraphs(t *testing.T) {
	m := maker{odds: firstOdd}
	count := map[bool]int{}
	for range 6000 {
		p, f := m.program()
		g := wantApplied(t, "a made program", p, f)
		for range 1 + m.below(3) {
			want := isClean(g)
			count[want]++
			wantIs(t, "a graph that was told, bent", want, g)
			m.bend(&g)
		}
		for i := range p {
			want := isClean(p[i])
			count[want]++
			wantIs(t, "a made program", want, p[i])
		}
	}
	if count[true] < 3000 || count[false] < 3000 {
		t.Errorf("%v", count)
	}
}

// All graphs of up to three blocks, and each third one of four, whose ends lead anywhere, each of them empty or not.
func TestAllSmallNets(t *testing.T) {
	count := map[bool]int{}
	for n := 1; n <= 4; n++ {
		eachNet(n, func(ends []api.Term) {
			for full := range 1 << n {
				count[wantNet(t, netOf(ends, full))]++
			}
		})
	}
	if count[true] < 1000 || count[false] < 10000 {
		t.Errorf("%v", count)
	}
}

// wantNet asks for all that is promised of a small graph of one truth, if it is set once; it tells whether it was clean.
func wantNet(t *testing.T, g api.Graph) bool {
	t.Helper()
	if slices.Contains(reached(g), false) {
		return false
	}
	want := isClean(g)
	wantIs(t, "a small net", want, g)
	h := wantApplied(t, "a small net", alone(g), 0)
	if want && !sameGraph(g, h) {
		t.Fatalf("%v becomes %v", g, h)
	}
	for w := range uint64(2) {
		wantNoMore(t, "a small net", alone(g), alone(h), 0, []uint64{w}, 12, 1)
	}
	return want
}

// eachNet tells of all ends that n blocks may have; of each third ones, if these are four.
func eachNet(n int, tell func(ends []api.Term)) {
	all := []api.Term{back(0), trap(1)}
	for to := 1; to < n; to++ {
		all = append(all, jump(to))
		for other := 1; other < n; other++ {
			all = append(all, branch(0, to, other))
		}
	}
	picked := make([]int, n)
	for tried := 0; ; tried++ {
		var ends []api.Term
		for _, k := range picked {
			ends = append(ends, all[k])
		}
		if n < 4 || tried%3 == 0 {
			tell(ends)
		}
		at := 0
		for at < n && picked[at] == len(all)-1 {
			picked[at] = 0
			at++
		}
		if at == n {
			return
		}
		picked[at]++
	}
}

// netOf is a graph of blocks with these ends: each of which a bit stands shows something, a bit of which tells with which phis it begins.
func netOf(ends []api.Term, full int) api.Graph {
	g := truths(1, 2)
	for i, end := range ends {
		b := block(end)
		if full>>i&1 == 1 {
			b.Ins = []api.Ins{show(0)}
		}
		g.Blocks = append(g.Blocks, b)
	}
	return g
}

// The same with a phi in each block that is full, which shows what way control came.
func TestAllSmallNetsWithPhis(t *testing.T) {
	count := map[bool]int{}
	for n := 2; n <= 4; n++ {
		eachNet(n, func(ends []api.Term) {
			for full := range 1 << (n - 1) {
				count[wantNet(t, withPhis(netOf(ends, 1+full<<1)))]++
			}
		})
	}
	if count[true] < 1000 || count[false] < 5000 {
		t.Errorf("%v", count)
	}
}

// withPhis is a graph in which each block behind the entry that shows something shows a number that tells from where control came: the entry sets as many as there are blocks.
func withPhis(g api.Graph) api.Graph {
	n := len(g.Blocks)
	g.Vars = slices.Concat([]api.Type{api.Bool}, slices.Repeat([]api.Type{api.U8}, 2*n))
	for i := range g.Blocks {
		switch {
		case i == 0:
			for k := range n {
				g.Blocks[0].Ins = append(g.Blocks[0].Ins, number(1+k, uint64(k)))
			}
		case len(g.Blocks[i].Ins) > 0:
			var args []int
			for _, from := range blocksAhead(g, i) {
				args = append(args, 1+from)
			}
			g.Blocks[i].Ins = []api.Ins{phi(1+n+i, args...), show(1 + n + i)}
		}
	}
	return g
}

// P18.3: what is told is told again clean, and kept, and as it was: there is nothing to put together any more.
func TestToldOnceMore(t *testing.T) {
	m := maker{odds: firstOdd}
	for range 3000 {
		p, f := m.program()
		q := with(p, f, wantKept(t, "a made program", p, f))
		r := with(q, f, wantKept(t, "told once more", q, f))
		if !sameGraph(q[f], r[f]) {
			t.Fatalf("%v becomes %v, and once more %v", p[f], q[f], r[f])
		}
		for from := range p {
			for _, seed := range []uint64{0, 1, m.number()} {
				for _, limit := range [][2]int{{0, 1}, {1, 1}, {2, 2}, {5, 1}, {60, 3}, {60, 0}} {
					wantNoMore(t, "told once more", p, r, from, wordsFor(p[from], seed), limit[0], limit[1])
				}
			}
		}
	}
}

func TestWhatIsCleanStaysAsItWas(t *testing.T) {
	m := maker{odds: firstOdd}
	clean := 0
	for range 12000 {
		p, f := m.program()
		if !tidy.Clean(p[f]) {
			continue
		}
		clean++
		if g := wantKept(t, "a clean graph", p, f); !sameGraph(g, p[f]) {
			t.Fatalf("%v becomes %v", p[f], g)
		}
	}
	if clean < 500 {
		t.Errorf("%d were clean", clean)
	}
}

// One graph after the other may be told: what becomes of one hangs on none of the others.
func TestAllGraphsOfAProgram(t *testing.T) {
	m := maker{odds: firstOdd}
	for range 1500 {
		p, _ := m.program()
		for f := range p {
			if g, e := ssa.Build(p, f); e == api.OK {
				p[f] = g
			}
		}
		q := p
		for f := range p {
			g := wantKept(t, "one by one", q, f)
			if h := wantKept(t, "by itself", p, f); !sameGraph(g, h) {
				t.Fatalf("%v becomes %v beside others, %v beside those that are told", p[f], h, g)
			}
			q = with(q, f, g)
		}
		for f := range p {
			for _, seed := range []uint64{0, 1, m.number()} {
				wantNoMore(t, "all of them", p, q, f, wordsFor(p[f], seed), 50, 4)
			}
		}
	}
}

// By other numbers of blocks and variables it is clean just as it was; what is told is clean and kept.
func TestBlocksRenumberedAndVariablesRenamed(t *testing.T) {
	m := maker{odds: firstOdd}
	for range 2000 {
		p, f := m.program()
		g := wantKept(t, "as it was", p, f)
		q := with(p, f, m.renumbered(p[f]))
		h := wantKept(t, "by other numbers", q, f)
		if graph.Count(g)-len(g.Blocks) != graph.Count(h)-len(h.Blocks) {
			t.Fatalf("%v becomes %v; as %v it becomes %v", p[f], g, q[f], h)
		}
		wantIs(t, "by other numbers", tidy.Clean(p[f]), q[f])
	}
}
