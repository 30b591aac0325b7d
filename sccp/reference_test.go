package sccp_test

import (
	"slices"

	"smithy/api"
	"smithy/graph"
	"smithy/run"
	"smithy/scalar"
	"smithy/ssa"
)

// The words themselves, as slow as they stand there.

// sets tells whether an instruction sets its Dst.
func sets(x api.Ins) bool {
	return slices.Contains([]api.InsKind{api.InsPhi, api.InsConst, api.InsCopy, api.InsOp, api.InsCast, api.InsLoad, api.InsCall}, x.Kind)
}

// ends is how many To an end has.
func ends(e api.Term) int {
	switch e.Kind {
	case api.TermJump:
		return 1
	case api.TermBranch:
		return 2
	}
	return 0
}

// blocksAhead are those with an edge to a block, rising.
func blocksAhead(g api.Graph, to int) []int {
	var l []int
	for from, b := range g.Blocks {
		if slices.Contains(b.Term.To[:ends(b.Term)], to) {
			l = append(l, from)
		}
	}
	return l
}

// isBelow tells whether a cell is below another one, or alike.
func isBelow(a, b api.Cell) bool {
	switch {
	case a == b, a.Kind == api.Unseen:
		return true
	case a.Kind == api.Known:
		return b.Kind == api.Varying
	}
	return false
}

// isCell tells whether a cell of a variable of that type is one.
func isCell(t api.Type, c api.Cell) bool {
	switch c.Kind {
	case api.Unseen, api.Varying:
		return c.Bits == 0
	case api.Known:
		return scalar.Right(t, c.Bits)
	}
	return false
}

// joint is the least cell that none of some is above.
func joint(l []api.Cell) api.Cell {
	l = slices.DeleteFunc(slices.Clone(l), func(c api.Cell) bool { return c.Kind == api.Unseen })
	switch {
	case len(l) == 0:
		return unseen
	case slices.ContainsFunc(l, func(c api.Cell) bool { return c != l[0] }):
		return varying
	}
	return l[0]
}

// comesBy tells whether facts have an edge from one block, which they reach, to another one.
func comesBy(g api.Graph, x api.Facts, from, to int) bool {
	e := g.Blocks[from].Term
	for side := range ends(e) {
		if x.Reached[from] && x.Edges[from][side] && e.To[side] == to {
			return true
		}
	}
	return false
}

// makes is what facts make of themselves.
func makes(g api.Graph, x api.Facts) api.Facts {
	n := len(g.Blocks)
	y := api.Facts{Cells: make([]api.Cell, len(g.Vars)), Reached: make([]bool, n), Edges: make([][2]bool, n)}
	for _, v := range g.Params {
		y.Cells[v] = varying
	}
	for i, b := range g.Blocks {
		ahead := blocksAhead(g, i)
		y.Reached[i] = i == 0 || slices.ContainsFunc(ahead, func(from int) bool { return comesBy(g, x, from, i) })
		if !x.Reached[i] {
			continue
		}
		y.Edges[i] = endMakes(x, b.Term)
		for _, ins := range b.Ins {
			if sets(ins) {
				y.Cells[ins.Dst] = insMakes(g, x, ins, i, ahead)
			}
		}
	}
	return y
}

func endMakes(x api.Facts, e api.Term) [2]bool {
	switch e.Kind {
	case api.TermJump:
		return [2]bool{true, false}
	case api.TermBranch:
		switch x.Cells[e.Arg] {
		case unseen:
			return [2]bool{}
		case known(1):
			return [2]bool{true, false}
		case known(0):
			return [2]bool{false, true}
		}
		return [2]bool{true, true}
	}
	return [2]bool{}
}

func insMakes(g api.Graph, x api.Facts, ins api.Ins, at int, ahead []int) api.Cell {
	var args []api.Cell
	for _, v := range ins.Args {
		args = append(args, x.Cells[v])
	}
	switch ins.Kind {
	case api.InsPhi:
		var l []api.Cell
		for i, from := range ahead {
			if comesBy(g, x, from, at) {
				l = append(l, args[i])
			}
		}
		return joint(l)
	case api.InsConst:
		return known(ins.Bits)
	case api.InsCopy:
		return args[0]
	case api.InsOp, api.InsCast:
		if slices.Contains(args, unseen) {
			return unseen
		}
		if slices.Contains(args, varying) {
			return varying
		}
		return known(runOf(g, ins, args))
	}
	return varying
}

// runOf is what an instruction tells in a run of its own, of words that are Known.
func runOf(g api.Graph, ins api.Ins, args []api.Cell) uint64 {
	n := len(args)
	h := api.Graph{Params: counted(0, n), Result: g.Vars[ins.Dst]}
	var words []uint64
	for i, v := range ins.Args {
		h.Vars = append(h.Vars, g.Vars[v])
		words = append(words, args[i].Bits)
	}
	h.Vars = append(h.Vars, h.Result)
	ins.Dst, ins.Args = n, counted(0, n)
	h.Blocks = []api.Block{block(back(n), ins)}
	trace, e := run.Run([]api.Graph{h}, 0, words, 1, 1)
	if e != api.OK || trace.End != api.Told {
		panic("no run")
	}
	return trace.Value
}

// isHolding tells whether facts hold of a graph that is set once.
func isHolding(g api.Graph, x api.Facts) bool {
	if len(x.Cells) != len(g.Vars) || len(x.Reached) != len(g.Blocks) || len(x.Edges) != len(g.Blocks) {
		return false
	}
	for v, c := range x.Cells {
		if !isCell(g.Vars[v], c) {
			return false
		}
	}
	return isUnder(makes(g, x), x)
}

// isUnder tells whether facts are nowhere above others, nor beside them.
func isUnder(x, y api.Facts) bool {
	for v, c := range x.Cells {
		if !isBelow(c, y.Cells[v]) {
			return false
		}
	}
	for i := range x.Reached {
		if x.Reached[i] && !y.Reached[i] || x.Edges[i][0] && !y.Edges[i][0] || x.Edges[i][1] && !y.Edges[i][1] {
			return false
		}
	}
	return true
}

// least is the least facts of a graph that is set once: what is made of none at all, and of that again, till nothing changes.
func least(g api.Graph) api.Facts {
	n := len(g.Blocks)
	x := api.Facts{Cells: make([]api.Cell, len(g.Vars)), Reached: make([]bool, n), Edges: make([][2]bool, n)}
	for {
		y := makes(g, x)
		if sameFacts(x, y) {
			return x
		}
		x = y
	}
}

// isSetOnce tells whether a graph alone may be asked of.
func isSetOnce(g api.Graph) bool { return isSetOnceIn([]api.Graph{g}, 0) }

// isSetOnceIn tells whether a graph of a program may be asked of.
func isSetOnceIn(p []api.Graph, f int) bool {
	e, _ := graph.Check(p)
	return e == api.OK && ssa.Is(p[f])
}
