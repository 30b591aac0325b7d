package dce_test

import (
	"math"
	"slices"
	"testing"

	"smithy/api"
	"smithy/dce"
	"smithy/graph"
)

// turnedWhole goes through whole with one number otherwise: nothing may be told of it, alone or beside a right one.
func turnedWhole(t *testing.T, what string, bend func(g *api.Graph)) {
	t.Helper()
	g := whole()
	bend(&g)
	wantNot(t, what, g)
}

func wantNot(t *testing.T, what string, g api.Graph) {
	t.Helper()
	wantNone(t, what, g)
	wantRefused(t, what, api.ErrShape, []api.Graph{g, beside()}, 0)
	wantRefused(t, what, api.ErrShape, []api.Graph{g, right()}, 1)
}

func TestNothingAtAll(t *testing.T) {
	wantNot(t, "nothing at all", api.Graph{})
	wantNot(t, "no block", withBlocks(whole()))
	wantNot(t, "no block, no variable", api.Graph{Result: api.I64})
	wantNot(t, "a block of nothing", withBlocks(whole(), api.Block{}))
	wantNot(t, "an instruction of nothing", withBlocks(whole(), block(back(0), api.Ins{})))
}

func TestVariablesThatAreNotThere(t *testing.T) {
	for _, v := range strays(16) {
		turnedWhole(t, "a parameter", func(g *api.Graph) { g.Params[1] = v })
		for i, b := range whole().Blocks {
			for j, x := range b.Ins {
				for k := range x.Args {
					turnedWhole(t, "an argument", func(g *api.Graph) { g.Blocks[i].Ins[j].Args[k] = v })
				}
				turnedWhole(t, "a Dst", func(g *api.Graph) { g.Blocks[i].Ins[j].Dst = v })
			}
			turnedWhole(t, "an end's Arg", func(g *api.Graph) { g.Blocks[i].Term.Arg = v })
		}
	}
	turnedWhole(t, "one parameter twice", func(g *api.Graph) { g.Params[1] = g.Params[0] })
	turnedWhole(t, "nine parameters", func(g *api.Graph) { g.Params = counted(0, 9) })
}

func TestBlocksAndArraysThatAreNotThere(t *testing.T) {
	for _, to := range append(strays(6), 0) {
		for i, b := range whole().Blocks {
			for side := range 2 {
				if to != b.Term.To[side] {
					turnedWhole(t, "a block", func(g *api.Graph) { g.Blocks[i].Term.To[side] = to })
				}
			}
		}
	}
	for i, b := range whole().Blocks {
		for j, x := range b.Ins {
			for _, ref := range strays(2) {
				if x.Kind == api.InsCall && ref > 0 {
					continue
				}
				turnedWhole(t, "a Ref", func(g *api.Graph) { g.Blocks[i].Ins[j].Ref = ref })
			}
		}
	}
}

func TestKindsThatAreNone(t *testing.T) {
	for i, b := range whole().Blocks {
		for j, x := range b.Ins {
			for _, kind := range []api.InsKind{0, 11, 12, 99, 255} {
				turnedWhole(t, "an instruction's kind", func(g *api.Graph) { g.Blocks[i].Ins[j].Kind = kind })
			}
			for _, o := range []api.Op{0, 19, 77, 255} {
				if o != x.Op {
					turnedWhole(t, "an operation", func(g *api.Graph) { g.Blocks[i].Ins[j].Op = o })
				}
			}
			if x.Kind != api.InsConst {
				turnedWhole(t, "bits", func(g *api.Graph) { g.Blocks[i].Ins[j].Bits = 1 })
			}
		}
		for _, kind := range []api.TermKind{0, 5, 6, 99, 255} {
			turnedWhole(t, "an end's kind", func(g *api.Graph) { g.Blocks[i].Term.Kind = kind })
		}
	}
	for _, typ := range []api.Type{0, 6, 7, 255} {
		for v := range whole().Vars {
			turnedWhole(t, "a variable's type", func(g *api.Graph) { g.Vars[v] = typ })
		}
		for a := range whole().Arrays {
			turnedWhole(t, "an array's type", func(g *api.Graph) { g.Arrays[a].Type = typ })
		}
		turnedWhole(t, "the result's type", func(g *api.Graph) { g.Result = typ })
	}
	for _, size := range []int{0, -1, 257, math.MaxInt} {
		turnedWhole(t, "an array's size", func(g *api.Graph) { g.Arrays[0].Size = size })
	}
	for _, n := range []api.Trap{0, 4, 255} {
		turnedWhole(t, "a trap", func(g *api.Graph) { g.Blocks[5].Term.Trap = n })
	}
	turnedWhole(t, "a word that is none", func(g *api.Graph) { g.Blocks[5].Ins[1] = number(5, 256) })
}

func TestTooFewAndTooManyArgs(t *testing.T) {
	for i, b := range whole().Blocks {
		for j, x := range b.Ins {
			for n := range len(x.Args) + 3 {
				if n == len(x.Args) {
					continue
				}
				args := append(slices.Clone(x.Args), 0, 1)[:n]
				bend := func(g *api.Graph) { g.Blocks[i].Ins[j].Args = args }
				if x.Kind != api.InsCall {
					turnedWhole(t, "too few or too many", bend)
					continue
				}
				// By itself it is right still; in the program it is not.
				g := whole()
				bend(&g)
				wantTold(t, "a call of fewer or more", neededByWords(g), g)
				wantRefused(t, "a call of fewer or more", api.ErrShape, []api.Graph{g, beside()}, 0)
			}
		}
	}
}

// Phis where none may stand, or which may not stand beside others.
func TestPhisThatMayNotStand(t *testing.T) {
	turnedWhole(t, "in the entry", func(g *api.Graph) { g.Blocks[0].Ins = slices.Insert(g.Blocks[0].Ins, 0, phi(8)) })
	turnedWhole(t, "behind another instruction", func(g *api.Graph) { g.Blocks[4].Ins = append(g.Blocks[4].Ins, phi(8, 8, 8)) })
	turnedWhole(t, "behind one that goes", func(g *api.Graph) { g.Blocks[4].Ins = slices.Insert(g.Blocks[4].Ins, 0, number(8, 1)) })
	turnedWhole(t, "behind a call", func(g *api.Graph) { g.Blocks[4].Ins = slices.Insert(g.Blocks[4].Ins, 1, call(1, 8, 5)) })
	turnedWhole(t, "two of one Dst", func(g *api.Graph) { g.Blocks[4].Ins[0].Dst = 7 })
	turnedWhole(t, "of another type", func(g *api.Graph) { g.Blocks[4].Ins[0].Args[1] = 1 })
	turnedWhole(t, "one more block ahead", func(g *api.Graph) { g.Blocks[5].Term = jump(4) })
	turnedWhole(t, "one block ahead less", func(g *api.Graph) { g.Blocks[2].Term = jump(5) })
}

// near is a number that is often a place in a list of that length, and sometimes beyond.
func (m *maker) near(length int) int {
	if m.often(5) {
		return pick(&m.odds, strays(length)...)
	}
	return m.below(length+2) - 1
}

// wreck changes one thing of a graph, which is right behind that, or is not.
func (m *maker) wreck(g *api.Graph) {
	switch m.below(12) {
	case 0:
		g.Result = api.Type(m.below(7))
	case 1:
		if len(g.Vars) > 0 {
			g.Vars[m.below(len(g.Vars))] = api.Type(m.below(7))
		}
	case 2:
		g.Params = append(g.Params, m.near(len(g.Vars)))
	case 3:
		g.Arrays = append(g.Arrays, api.Array{Type: api.Type(m.below(7)), Size: m.near(257)})
	case 4:
		g.Blocks = g.Blocks[:m.below(len(g.Blocks)+1)]
	case 5, 6:
		m.wreckEnd(g)
	default:
		m.wreckIns(g)
	}
}

func (m *maker) wreckEnd(g *api.Graph) {
	if len(g.Blocks) == 0 {
		return
	}
	e := &g.Blocks[m.below(len(g.Blocks))].Term
	switch m.below(5) {
	case 0:
		e.Kind = api.TermKind(m.below(6))
	case 1:
		e.Arg = m.near(len(g.Vars))
	case 2:
		e.To[0] = m.near(len(g.Blocks))
	case 3:
		e.To[1] = m.near(len(g.Blocks))
	case 4:
		e.Trap = api.Trap(m.below(5))
	}
}

func (m *maker) wreckIns(g *api.Graph) {
	for _, i := range m.shuffled(len(g.Blocks)) {
		if ins := g.Blocks[i].Ins; len(ins) > 0 {
			m.wreckOne(g, &ins[m.below(len(ins))])
			return
		}
	}
}

func (m *maker) wreckOne(g *api.Graph, x *api.Ins) {
	switch m.below(8) {
	case 0:
		x.Kind = api.InsKind(m.below(12))
	case 1:
		x.Op = api.Op(m.below(20))
	case 2:
		x.Dst = m.near(len(g.Vars))
	case 3:
		x.Bits = m.number() >> m.below(64)
	case 4:
		x.Ref = m.near(max(len(g.Arrays), 3))
	case 5:
		x.Args = append(x.Args, m.near(len(g.Vars)))
	case 6:
		x.Args = x.Args[:m.below(len(x.Args)+1)]
	case 7:
		if len(x.Args) > 0 {
			x.Args[m.below(len(x.Args))] = m.near(len(g.Vars))
		}
	}
}

// junk is any graph: nothing of it needs to be right.
func (m *maker) junk() api.Graph {
	g := api.Graph{Name: "junk", Result: api.Type(m.below(7))}
	for range m.below(6) {
		g.Vars = append(g.Vars, api.Type(m.below(7)))
		g.Params = append(g.Params, m.near(6))
		g.Arrays = append(g.Arrays, api.Array{Type: api.Type(m.below(7)), Size: m.near(257)})
	}
	n := m.below(14)
	for range n {
		x := api.Block{Term: api.Term{Kind: api.TermKind(m.below(6)), Arg: m.near(6), To: [2]int{m.near(n), m.near(n)}, Trap: api.Trap(m.below(5))}}
		for range m.below(5) {
			x.Ins = append(x.Ins, m.junkIns())
		}
		g.Blocks = append(g.Blocks, x)
	}
	return g
}

func (m *maker) junkIns() api.Ins {
	x := api.Ins{Kind: api.InsKind(m.below(12)), Op: api.Op(m.below(20)), Dst: m.near(6), Bits: m.number() >> m.below(64), Ref: m.near(6)}
	for range m.below(4) {
		x.Args = append(x.Args, m.near(6))
	}
	return x
}

// No call panics at any graph; what is told is what the words say.
func TestAnyGraph(t *testing.T) {
	m := maker{odds: firstOdd}
	for range 30000 {
		g := m.junk()
		wantTold(t, "junk", neededByWords(g), g)
		dce.Apply([]api.Graph{g, m.junk()}, m.near(2))
	}
	count := map[bool]int{}
	for range 20000 {
		p := m.program()
		f := m.below(len(p))
		for range 1 + m.below(3) {
			m.wreck(&p[f])
		}
		want := neededByWords(p[f])
		count[len(want) > 0]++
		wantTold(t, "a wrecked graph", want, p[f])
		if e, _ := graph.Check(p); e != api.OK {
			wantRefused(t, "a wrecked graph", api.ErrShape, p, m.near(len(p)))
		}
	}
	if count[true] < 3000 || count[false] < 5000 {
		t.Errorf("%v", count)
	}
}
