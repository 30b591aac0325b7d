package tidy_test

import (
	"math"
	"slices"
	"testing"

	"smithy/api"
	"smithy/graph"
	"smithy/tidy"
)

// sound is a graph of each kind of instruction and end that is set once, and clean.
func sound() api.Graph {
	return api.Graph{Name: "sound", Params: row(0, 1), Result: api.I64, Vars: []api.Type{api.I64, api.Bool, api.I64, api.I64, api.F64, api.I64, api.I64, api.I64, api.I64}, Arrays: []api.Array{{Type: api.I64, Size: 3}}, Blocks: []api.Block{
		block(branch(1, 1, 2), number(2, 5), op(api.OpAdd, 3, 0, 2), cast(4, 3), wipe(0)),
		block(jump(3), load(5, 0, 0), store(0, 2, 5)),
		block(branch(1, 5, 4), call(0, 6, 0, 1), show(4), copyOf(8, 6)),
		block(back(7), phi(7, 5, 8, 6), show(7)),
		block(trap(2)),
		block(branch(1, 3, 6)),
		block(jump(3)),
	}}
}

// wantNot asks that a graph is not clean, and that Apply refuses it, alone and beside one that is right.
func wantNot(t *testing.T, what string, g api.Graph) {
	t.Helper()
	wantClean(t, what, false, g)
	wantRefused(t, what, api.ErrShape, alone(g), 0)
	wantRefused(t, what, api.ErrShape, []api.Graph{g, once()}, 0)
	wantRefused(t, what, api.ErrShape, []api.Graph{once(), g}, 1)
}

func TestSound(t *testing.T) {
	wantClean(t, "a sound graph", true, sound())
	wantStay(t, "a sound graph", sound())
}

func TestNothingAtAll(t *testing.T) {
	wantNot(t, "nothing at all", api.Graph{})
	wantNot(t, "no block", withBlocks(sound()))
	wantNot(t, "no block, no end", api.Graph{Result: api.I64, Vars: []api.Type{api.I64}})
	wantNot(t, "a block of nothing", withBlocks(sound(), api.Block{}))
	wantNot(t, "an instruction of nothing", withBlocks(sound(), block(back(0), api.Ins{})))
}

// turnedSound goes through sound with one number otherwise.
func turnedSound(t *testing.T, what string, bend func(g *api.Graph)) {
	t.Helper()
	g := sound()
	bend(&g)
	wantNot(t, what, g)
}

func TestVariablesThatAreNotThere(t *testing.T) {
	for _, v := range strays(9) {
		turnedSound(t, "a parameter", func(g *api.Graph) { g.Params[1] = v })
		for i, b := range sound().Blocks {
			for j, x := range b.Ins {
				for k := range x.Args {
					turnedSound(t, "an argument", func(g *api.Graph) { g.Blocks[i].Ins[j].Args[k] = v })
				}
				turnedSound(t, "a Dst", func(g *api.Graph) { g.Blocks[i].Ins[j].Dst = v })
			}
			turnedSound(t, "an end's Arg", func(g *api.Graph) { g.Blocks[i].Term.Arg = v })
		}
	}
}

func TestBlocksAndArraysThatAreNotThere(t *testing.T) {
	for _, to := range append(strays(7), 0) {
		for i := range sound().Blocks {
			for side := range 2 {
				end := sound().Blocks[i].Term
				if to == end.To[side] {
					continue
				}
				turnedSound(t, "a block", func(g *api.Graph) { g.Blocks[i].Term.To[side] = to })
			}
		}
	}
	for _, ref := range strays(1) {
		turnedSound(t, "an array that is cleared", func(g *api.Graph) { g.Blocks[0].Ins[3].Ref = ref })
		turnedSound(t, "an array that is loaded from", func(g *api.Graph) { g.Blocks[1].Ins[0].Ref = ref })
		turnedSound(t, "an array that is stored to", func(g *api.Graph) { g.Blocks[1].Ins[1].Ref = ref })
		if ref < 0 {
			turnedSound(t, "a graph that is called", func(g *api.Graph) { g.Blocks[2].Ins[0].Ref = ref })
		}
	}
}

func TestKindsThatAreNone(t *testing.T) {
	for i, b := range sound().Blocks {
		for j, x := range b.Ins {
			for _, kind := range []api.InsKind{0, 11, 12, 99, 255} {
				turnedSound(t, "an instruction's kind", func(g *api.Graph) { g.Blocks[i].Ins[j].Kind = kind })
			}
			for _, o := range []api.Op{0, 19, 77, 255} {
				if o != x.Op {
					turnedSound(t, "an operation", func(g *api.Graph) { g.Blocks[i].Ins[j].Op = o })
				}
			}
		}
		for _, kind := range []api.TermKind{0, 5, 6, 99, 255} {
			turnedSound(t, "an end's kind", func(g *api.Graph) { g.Blocks[i].Term.Kind = kind })
		}
	}
	for _, typ := range []api.Type{0, 6, 7, 255} {
		for v := range sound().Vars {
			turnedSound(t, "a variable's type", func(g *api.Graph) { g.Vars[v] = typ })
		}
		turnedSound(t, "the result's type", func(g *api.Graph) { g.Result = typ })
		turnedSound(t, "an array's type", func(g *api.Graph) { g.Arrays[0].Type = typ })
	}
	for _, size := range []int{0, -1, 257, math.MaxInt} {
		turnedSound(t, "an array's size", func(g *api.Graph) { g.Arrays[0].Size = size })
	}
	turnedSound(t, "a word that is none", func(g *api.Graph) { g.Vars[2], g.Blocks[0].Ins[0].Bits = api.U8, 256 })
}

func TestTooFewAndTooManyArgs(t *testing.T) {
	for i, b := range sound().Blocks {
		for j, x := range b.Ins {
			for n := range len(x.Args) + 3 {
				if n == len(x.Args) {
					continue
				}
				args := append(slices.Clone(x.Args), 0, 1)[:n]
				bend := func(g *api.Graph) { g.Blocks[i].Ins[j].Args = args }
				if x.Kind != api.InsCall {
					turnedSound(t, "too few or too many", bend)
					continue
				}
				// By itself it is right still; in the program it is not.
				g := sound()
				bend(&g)
				wantClean(t, "a call of fewer or more", true, g)
				wantRefused(t, "a call of fewer or more", api.ErrShape, alone(g), 0)
			}
		}
	}
	for _, x := range []api.Ins{{Kind: api.InsCopy}, {Kind: api.InsCopy, Args: row(0, 0)}, {Kind: api.InsCast}, {Kind: api.InsOp, Op: api.OpAdd}, {Kind: api.InsOp, Op: api.OpAdd, Args: row(0)}, {Kind: api.InsOp, Op: api.OpNot, Args: row(0, 0)}, {Kind: api.InsConst, Args: row(0)}} {
		x.Dst = 2
		wantNot(t, "of any kind", withBlocks(sound(), block(back(0), x)))
		wantNot(t, "of any kind, twice", withBlocks(sound(), block(back(0), x, x)))
	}
}

func TestPhisWhereNoneMayStand(t *testing.T) {
	ahead := [][]int{nil, {0}, {0}, {1, 5, 6}, {2}, {2}, {5}}
	for i, b := range sound().Blocks {
		x := phi(2, slices.Repeat(row(0), len(ahead[i]))...)
		drop := func(g *api.Graph) { g.Blocks[0].Ins[0] = op(api.OpAdd, 3, 0, 0); g.Blocks[0].Ins[1] = wipe(0) }
		if i == 0 || len(b.Ins) > 0 {
			turnedSound(t, "a phi in the entry, or behind something else", func(g *api.Graph) { drop(g); g.Blocks[i].Ins = append(g.Blocks[i].Ins, x) })
		}
		if i == 0 {
			turnedSound(t, "a phi in the entry", func(g *api.Graph) { drop(g); g.Blocks[0].Ins = slices.Insert(g.Blocks[0].Ins, 0, x) })
			turnedSound(t, "a phi alone in the entry", func(g *api.Graph) { g.Blocks[0].Ins = []api.Ins{x} })
			continue
		}
		turnedSound(t, "a phi with too many", func(g *api.Graph) {
			g.Blocks[i].Ins = slices.Insert(g.Blocks[i].Ins, 0, phi(2, append(x.Args, 0)...))
		})
		turnedSound(t, "a phi with too few", func(g *api.Graph) { g.Blocks[i].Ins = slices.Insert(g.Blocks[i].Ins, 0, phi(2, x.Args[1:]...)) })
		turnedSound(t, "two phis of one", func(g *api.Graph) { g.Blocks[i].Ins = slices.Insert(g.Blocks[i].Ins, 0, x, x) })
		turnedSound(t, "a phi of another type", func(g *api.Graph) {
			y := phi(2, slices.Repeat(row(4), len(x.Args))...)
			g.Blocks[i].Ins = slices.Insert(g.Blocks[i].Ins, 0, y)
		})
		g := sound()
		g.Blocks[i].Ins = slices.Insert(g.Blocks[i].Ins, 0, x)
		// A block with a phi is no empty one any more, wherever it stands.
		wantClean(t, "a phi where one may stand", true, g)
	}
}

// near is a number that is often a place in a list of that length, and sometimes beyond.
func (m *maker) near(length int) int {
	if m.often(5) {
		return pick(&m.odds, strays(length)...)
	}
	return m.below(length+2) - 1
}

// wreck changes one thing of a graph, which is right behind that, or is not.
func (m *maker) wreck(g *api.Graph) {
	switch m.below(12) {
	case 0:
		g.Result = api.Type(m.below(7))
	case 1:
		if len(g.Vars) > 0 {
			g.Vars[m.below(len(g.Vars))] = api.Type(m.below(7))
		}
	case 2:
		g.Params = append(g.Params, m.near(len(g.Vars)))
	case 3:
		g.Arrays = append(g.Arrays, api.Array{Type: api.Type(m.below(7)), Size: m.near(257)})
	case 4:
		g.Blocks = g.Blocks[:m.below(len(g.Blocks)+1)]
	case 5, 6:
		m.wreckEnd(g)
	default:
		m.wreckIns(g)
	}
}

func (m *maker) wreckEnd(g *api.Graph) {
	if len(g.Blocks) == 0 {
		return
	}
	e := &g.Blocks[m.below(len(g.Blocks))].Term
	switch m.below(5) {
	case 0:
		e.Kind = api.TermKind(m.below(6))
	case 1:
		e.Arg = m.near(len(g.Vars))
	case 2:
		e.To[0] = m.near(len(g.Blocks))
	case 3:
		e.To[1] = m.near(len(g.Blocks))
	case 4:
		e.Trap = api.Trap(m.below(5))
	}
}

func (m *maker) wreckIns(g *api.Graph) {
	for _, i := range m.shuffled(len(g.Blocks)) {
		if ins := g.Blocks[i].Ins; len(ins) > 0 {
			m.wreckOne(g, &ins[m.below(len(ins))])
			return
		}
	}
}

func (m *maker) wreckOne(g *api.Graph, x *api.Ins) {
	switch m.below(8) {
	case 0:
		x.Kind = api.InsKind(m.below(12))
	case 1:
		x.Op = api.Op(m.below(20))
	case 2:
		x.Dst = m.near(len(g.Vars))
	case 3:
		x.Bits = m.number() >> m.below(64)
	case 4:
		x.Ref = m.near(max(len(g.Arrays), 3))
	case 5:
		x.Args = append(x.Args, m.near(len(g.Vars)))
	case 6:
		x.Args = x.Args[:m.below(len(x.Args)+1)]
	case 7:
		if len(x.Args) > 0 {
			x.Args[m.below(len(x.Args))] = m.near(len(g.Vars))
		}
	}
}

// junk is any graph: nothing of it needs to be right.
func (m *maker) junk() api.Graph {
	g := api.Graph{Name: "junk", Result: api.Type(m.below(7))}
	for range m.below(6) {
		g.Vars = append(g.Vars, api.Type(m.below(7)))
		g.Params = append(g.Params, m.near(6))
		g.Arrays = append(g.Arrays, api.Array{Type: api.Type(m.below(7)), Size: m.near(257)})
	}
	n := m.below(14)
	for range n {
		x := api.Block{Term: api.Term{Kind: api.TermKind(m.below(6)), Arg: m.near(6), To: [2]int{m.near(n), m.near(n)}, Trap: api.Trap(m.below(5))}}
		for range m.below(5) {
			x.Ins = append(x.Ins, m.junkIns())
		}
		g.Blocks = append(g.Blocks, x)
	}
	return g
}

func (m *maker) junkIns() api.Ins {
	x := api.Ins{Kind: api.InsKind(m.below(12)), Op: api.Op(m.below(20)), Dst: m.near(6), Bits: m.number() >> m.below(64), Ref: m.near(6)}
	for range m.below(4) {
		x.Args = append(x.Args, m.near(6))
	}
	return x
}

// No call panics at any graph; what is told is what the words say.
func TestAnyGraph(t *testing.T) {
	m := maker{odds: firstOdd}
	count := map[bool]int{}
	for range 20000 {
		g := m.junk()
		wantIs(t, "junk", false, g)
		tidy.Apply([]api.Graph{g, m.junk()}, m.near(2))
	}
	for range 12000 {
		p, f := m.program()
		g := wantApplied(t, "a made program", p, f)
		for range 1 + m.below(3) {
			m.wreck(&g)
		}
		want := isClean(g)
		count[want]++
		wantIs(t, "a wrecked graph", want, g)
		q := with(p, f, g)
		if e, _ := graph.Check(q); e != api.OK {
			wantRefused(t, "a wrecked graph", api.ErrShape, q, m.near(len(q)))
		}
	}
	if count[true] < 1000 || count[false] < 3000 {
		t.Errorf("%v", count)
	}
}
