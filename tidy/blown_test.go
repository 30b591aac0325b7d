package tidy_test

import (
	"slices"
	"testing"

	"smithy/api"
	"smithy/graph"
	"smithy/ssa"
	"smithy/tidy"
)

// loose is a graph whose phis have their arguments by blocks ahead, so that its edges may be turned.
type loose struct {
	api.Graph
	args [][]map[int]int // of each block, of each of its phis
}

func loosened(g api.Graph) *loose {
	l := &loose{copied(g), make([][]map[int]int, len(g.Blocks))}
	for i, b := range g.Blocks {
		ahead := blocksAhead(g, i)
		for _, x := range b.Ins {
			if !isPhi(x) {
				break
			}
			m := map[int]int{}
			for k, from := range ahead {
				m[from] = x.Args[k]
			}
			l.args[i] = append(l.args[i], m)
		}
	}
	return l
}

// fastened is the graph with its phis' arguments in their order.
func (l *loose) fastened() api.Graph {
	for i := range l.Blocks {
		ahead := blocksAhead(l.Graph, i)
		for j, m := range l.args[i] {
			x := &l.Blocks[i].Ins[j]
			x.Args = nil
			for _, from := range ahead {
				x.Args = append(x.Args, m[from])
			}
		}
	}
	return l.Graph
}

func (l *loose) add(b api.Block) int {
	l.Blocks, l.args = append(l.Blocks, b), append(l.args, nil)
	return len(l.Blocks) - 1
}

// hand gives the phis of a block for one block ahead what they had for another one.
func (l *loose) hand(to, was, is int) {
	for _, m := range l.args[to] {
		m[is] = m[was]
	}
}

func (l *loose) drop(to, was int) {
	for _, m := range l.args[to] {
		delete(m, was)
	}
}

// mix puts a list into another order.
func (m *maker) mix(l []int) {
	was := slices.Clone(l)
	for i, j := range m.shuffled(len(l)) {
		l[i] = was[j]
	}
}

// cut makes two blocks of one, behind its phis or further down.
func (l *loose) cut(m *maker, i int) {
	b := &l.Blocks[i]
	at := len(l.args[i]) + m.below(len(b.Ins)-len(l.args[i])+1)
	n := l.add(block(b.Term, slices.Clone(b.Ins[at:])...))
	b = &l.Blocks[i]
	b.Ins, b.Term = b.Ins[:at:at], jump(n)
	for _, to := range graph.Next(l.Blocks[n]) {
		l.hand(to, i, n)
		l.drop(to, i)
	}
}

// gather puts an empty block ahead of another one: some of those that were ahead of that lead there, all of which it asked the same for. If it has phis, one at least does not, if there are several.
func (l *loose) gather(m *maker, to int) {
	ahead := blocksAhead(l.Graph, to)
	if len(ahead) == 0 {
		return
	}
	m.mix(ahead)
	one, other, least := ahead[0], ahead[len(ahead)-1], m.below(100)
	n := l.add(block(jump(to)))
	l.hand(to, one, n)
	for _, from := range ahead {
		same := !slices.ContainsFunc(l.args[to], func(a map[int]int) bool { return a[from] != a[n] })
		if from != one && (!same || m.often(least) || from == other && len(l.args[to]) > 0) {
			continue
		}
		e := &l.Blocks[from].Term
		for side := range ends(*e) {
			if e.To[side] == to {
				e.To[side] = n
			}
		}
		l.drop(to, from)
	}
}

// fork turns a jump into a branch that leads to one block alone.
func (l *loose) fork(m *maker, i int) {
	e := &l.Blocks[i].Term
	for _, v := range l.Params {
		if l.Vars[v] == api.Bool && e.Kind == api.TermJump {
			*e = branch(v, e.To[0], e.To[0])
		}
	}
}

// blown is a graph with more blocks, and branches that choose nothing, so that it does what it did.
func (m *maker) blown(g api.Graph, times int) api.Graph {
	l := loosened(g)
	for range times {
		i := m.below(len(l.Blocks))
		switch m.below(5) {
		case 0, 1:
			l.cut(m, i)
		case 2, 3:
			l.gather(m, i)
		case 4:
			l.fork(m, i)
		}
	}
	return l.fastened()
}

// What has been blown up comes to as many blocks as there were, with the same runs.
func TestBlownUp(t *testing.T) {
	m := maker{odds: firstOdd}
	more := 0
	for range 4000 {
		p, f := m.program()
		g := wantApplied(t, "a made program", p, f)
		p = with(p, f, g)
		q := with(p, f, m.blown(g, 1+m.below(12)))
		if m.often(50) {
			q[f] = m.renumbered(q[f])
		}
		if !ssa.Is(q[f]) || tidy.Clean(q[f]) != isClean(q[f]) {
			t.Fatalf("%v: set once: %v; Clean tells %v", q[f], ssa.Is(q[f]), tidy.Clean(q[f]))
		}
		h := wantKept(t, "blown up", q, f)
		if len(h.Blocks) > len(g.Blocks) || !hasWayRound(g) && len(h.Blocks) < len(g.Blocks) || graph.Count(h)-len(h.Blocks) != graph.Count(g)-len(g.Blocks) {
			t.Fatalf("%v was blown up to %v, which becomes %v", g, q[f], h)
		}
		more += len(q[f].Blocks) - len(g.Blocks)
		for from := range p {
			for steps := range 20 {
				wantNoMore(t, "blown up", q, with(q, f, h), from, wordsFor(p[from], m.number()), 2*steps, m.below(5))
			}
		}
	}
	if more < 10000 {
		t.Errorf("%d blocks more", more)
	}
}

// hasWayRound tells whether some block of a clean graph that is not the entry is empty and jumps to another one: where what it stands for is put together otherwise, it may go.
func hasWayRound(g api.Graph) bool {
	for i, b := range g.Blocks {
		if i > 0 && len(b.Ins) == 0 && b.Term.Kind == api.TermJump && b.Term.To[0] != i {
			return true
		}
	}
	return false
}
