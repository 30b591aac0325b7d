package live_test

import (
	"runtime/debug"
	"slices"
	"testing"

	"smithy/api"
	"smithy/live"
)

// sort is graphs of n blocks and k variables by a rule, and rules of what is live into and out of each block.
type sort struct {
	name      string
	block     func(b, n, k int) api.Block
	into, out func(b, n, k int) []int
}

// onward is an end that leads to the block behind, or a trap where there is none.
func onward(b, n int) api.Term {
	if b == n-1 {
		return trap(1)
	}
	return jump(b + 1)
}

func all(b, n, k int) []int { return counted(0, k) }

func nothing(b, n, k int) []int { return nil }

// butLast is a rule for all blocks but the last one, of which nothing is live.
func butLast(rule func(b, n, k int) []int) func(b, n, k int) []int {
	return func(b, n, k int) []int {
		if b == n-1 {
			return nil
		}
		return rule(b, n, k)
	}
}

func butEntry(rule func(b, n, k int) []int) func(b, n, k int) []int {
	return func(b, n, k int) []int {
		if b == 0 {
			return nil
		}
		return rule(b, n, k)
	}
}

// each is an instruction for each variable.
func each(k int, ins func(v int) api.Ins) []api.Ins {
	var l []api.Ins
	for v := range k {
		l = append(l, ins(v))
	}
	return l
}

// asker is a row whose last block asks all; what the others do is a rule.
func asker(others func(b, n, k int) []api.Ins, end func(b, n int) api.Term) func(b, n, k int) api.Block {
	return func(b, n, k int) api.Block {
		if b == n-1 {
			return block(end(b, n), each(k, show)...)
		}
		return block(end(b, n), others(b, n, k)...)
	}
}

func idle(b, n, k int) []api.Ins { return nil }

// setFirst is settings of all variables in the entry.
func setFirst(b, n, k int) []api.Ins {
	if b == 0 {
		return each(k, constant)
	}
	return nil
}

// downward leads from the entry to the last block, from each to the one ahead, and ends in 1.
func downward(b, n int) api.Term {
	switch b {
	case 0:
		return jump(n - 1)
	case 1:
		return trap(1)
	}
	return jump(b - 1)
}

// turn is the variable whose turn it is at a block.
func turn(b, k int) int { return b % k }

// later is the variables whose turn it is from a block on.
func later(b, n, k int) []int {
	if n-b >= k {
		return counted(0, k)
	}
	var l []int
	for i := b; i < n; i++ {
		l = append(l, turn(i, k))
	}
	return with(l)
}

// odder is what is asked by the teeth from a block on, of a comb whose teeth are its odd blocks.
func odder(b, n, k int) []int {
	var l []int
	for i := b | 1; i < n && len(l) < k; i += 2 {
		l = append(l, i/2%k)
	}
	return with(l)
}

var sorts = []sort{
	{"a row whose last block asks all", asker(idle, onward), all, butLast(all)},
	{"a row whose entry sets all, and whose last block asks them", asker(setFirst, onward), butEntry(all), butLast(all)},
	{"a row backward", func(b, n, k int) api.Block {
		if b == 1 {
			return block(downward(b, n), each(k, show)...)
		}
		return block(downward(b, n))
	}, all, func(b, n, k int) []int {
		if b == 1 {
			return nil
		}
		return all(b, n, k)
	}},
	{"a row, each with what it asks", func(b, n, k int) api.Block { return block(onward(b, n), show(turn(b, k))) }, later, butLast(func(b, n, k int) []int { return later(b+1, n, k) })},
	{"a row, each setting what the next one asks", func(b, n, k int) api.Block {
		return block(onward(b, n), copyOf(turn(b+1, k), turn(b, k)))
	}, func(b, n, k int) []int { return row(turn(b, k)) }, butLast(func(b, n, k int) []int { return row(turn(b+1, k)) })},
	{"a row of phis of what was set ahead", func(b, n, k int) api.Block {
		if b == 0 {
			return block(onward(b, n))
		}
		return block(onward(b, n), phi(turn(b, k), turn(b-1, k)))
	}, func(b, n, k int) []int {
		if b == 0 {
			return row(0)
		}
		return nil
	}, butLast(func(b, n, k int) []int { return row(turn(b, k)) })},
	{"a circle that asks all at one place", func(b, n, k int) api.Block {
		end := jump(b%(n-1) + 1)
		if b == n/2 {
			return block(end, each(k, show)...)
		}
		return block(end)
	}, all, all},
	{"a circle, each with what it asks", func(b, n, k int) api.Block { return block(jump(b%(n-1)+1), show(turn(b, k))) }, func(b, n, k int) []int {
		if n-1 >= k {
			return all(b, n, k)
		}
		l := counted(1, n)
		if b == 0 {
			l = append(l, 0)
		}
		return with(l)
	}, func(b, n, k int) []int {
		if n-1 >= k {
			return all(b, n, k)
		}
		return counted(1, n)
	}},
	{"a circle that asks and sets at one place", func(b, n, k int) api.Block {
		end := jump(b%(n-1) + 1)
		if b == n-1 {
			return block(end, slices.Concat(each(k, show), each(k, constant))...)
		}
		return block(end)
	}, all, all},
	{"loops in loops", func(b, n, k int) api.Block {
		if b == n-1 {
			return block(trap(1))
		}
		if b == 0 {
			return block(jump(1))
		}
		ins := []api.Ins{show(0)}
		if b == n/2 {
			ins = each(k, show)
		}
		return block(branch(0, b+1, max(1, min(b, n-b))), ins...)
	}, butLast(all), butLast(all)},
	{"a comb whose teeth ask", func(b, n, k int) api.Block {
		switch {
		case b%2 == 1:
			return block(trap(2), show(b/2%k))
		case b+2 >= n:
			return block(onward(b, n))
		}
		return block(branch(0, b+1, b+2))
	}, func(b, n, k int) []int {
		if b%2 == 1 {
			return row(b / 2 % k)
		}
		if b+2 >= n {
			return odder(b, n, k)
		}
		return with(odder(b, n, k), 0)
	}, func(b, n, k int) []int {
		if b%2 == 1 {
			return nil
		}
		if b+4 >= n {
			return odder(b, n, k)
		}
		return with(odder(b, n, k), 0)
	}},
	{"a row in which each leads to the last one, a phi of what each sets", func(b, n, k int) api.Block {
		if b == n-1 {
			args := make([]int, n-1)
			for i := range args {
				args[i] = turn(i, k)
			}
			return block(back(0), phi(0, args...))
		}
		return block(branch(turn(b, k), b+1, n-1), constant(turn(b, k)))
	}, nothing, butLast(func(b, n, k int) []int { return row(turn(b, k)) })},
	{"nothing that is asked", func(b, n, k int) api.Block { return block(onward(b, n), each(k, constant)...) }, nothing, nothing},
}

func (s sort) made(n, k int) (g api.Graph, into, out [][]int) {
	g = truths(k)
	for b := range n {
		g.Blocks = append(g.Blocks, s.block(b, n, k))
		into, out = append(into, s.into(b, n, k)), append(out, s.out(b, n, k))
	}
	return g, into, out
}

// What is wanted of long graphs is what the words say of short ones.
func TestSortsOfGraphs(t *testing.T) {
	for _, s := range sorts {
		for n := 6; n < 16; n++ {
			for k := 1; k < 6; k++ {
				g, into, out := s.made(n, k)
				if a, b := leastSets(g); !sameLists(a, into) || !sameLists(b, out) {
					t.Fatalf("%s, %d and %d, %v: want %v, %v; the words say %v, %v", s.name, n, k, g.Blocks, into, out, a, b)
				}
				wantLive(t, s.name, g, into, out)
			}
		}
	}
}

func wantLong(t *testing.T, what string, g api.Graph, into, out [][]int) {
	t.Helper()
	if a, b, e := live.Live(g); e != api.OK || !sameLists(a, into) || !sameLists(b, out) {
		t.Errorf("%s of %d blocks and %d variables is told otherwise, %d", what, len(g.Blocks), len(g.Vars), e)
	}
}

// Nobody calls itself along a long row, or goes along it again for each of its blocks or variables: who does so ends the run, or never ends.
func TestLongGraphs(t *testing.T) {
	was := debug.SetMaxStack(1 << 20)
	defer debug.SetMaxStack(was)
	for _, s := range sorts {
		for _, size := range [][2]int{{200003, 3}, {20011, 70}, {1000, 1000}} {
			g, into, out := s.made(size[0], size[1])
			wantLong(t, s.name, g, into, out)
		}
	}
}

// As many variables as blocks, of which hardly one is live anywhere: a set of all variables for each block would be far longer than what is told.
func TestManyBlocksWithVariablesOfTheirOwn(t *testing.T) {
	const n = 1 << 18
	for _, s := range sorts {
		if slices.Contains([]string{"a row, each setting what the next one asks", "a row of phis of what was set ahead", "a row in which each leads to the last one, a phi of what each sets"}, s.name) {
			g, into, out := s.made(n, n)
			wantLong(t, s.name, g, into, out)
		}
	}
}

// By other numbers nothing is met in the order of the row, neither blocks nor variables.
func TestLongGraphsByOtherNumbers(t *testing.T) {
	m := maker{odds: firstOdd}
	for _, s := range sorts {
		for _, size := range [][2]int{{20000, 5}, {3000, 130}} {
			g, into, out := s.made(size[0], size[1])
			if phisOf(g.Blocks[len(g.Blocks)-1]) > 0 && len(g.Blocks[len(g.Blocks)-1].Ins[0].Args) > 1 {
				continue // Which argument is for which block hangs on the blocks' numbers.
			}
			m.renumber(&g, into, out)
			wantLong(t, s.name+" by other numbers", g, into, out)
		}
	}
}

// renumber gives other numbers to all blocks of a graph but the entry, and to its variables, and changes what is live with them.
func (m *maker) renumber(g *api.Graph, into, out [][]int) {
	names, vars := []int{0}, m.shuffled(len(g.Vars))
	for _, b := range m.shuffled(len(g.Blocks) - 1) {
		names = append(names, b+1)
	}
	named := func(l []int) []int {
		l = slices.Clone(l)
		for i := range l {
			l[i] = vars[l[i]]
		}
		return l
	}
	h := copied(*g)
	a, b := slices.Clone(into), slices.Clone(out)
	for i, to := range names {
		x := h.Blocks[i]
		for j := range x.Ins {
			x.Ins[j].Args = named(x.Ins[j].Args)
			if sets(x.Ins[j], x.Ins[j].Dst) {
				x.Ins[j].Dst = vars[x.Ins[j].Dst]
			}
		}
		if endAsks(x.Term, x.Term.Arg) {
			x.Term.Arg = vars[x.Term.Arg]
		}
		for j := range ends(x.Term) {
			x.Term.To[j] = names[x.Term.To[j]]
		}
		g.Blocks[to] = x
		into[to], out[to] = with(named(a[i])), with(named(b[i]))
	}
}
