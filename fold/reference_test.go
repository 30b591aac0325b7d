package fold_test

import (
	"slices"

	"smithy/api"
	"smithy/run"
	"smithy/scalar"
)

// The words themselves, as slow as they stand there.

// isFolded tells whether a graph is folded whose least facts these are.
func isFolded(g api.Graph, x api.Facts) bool {
	constant := make([]bool, len(g.Vars))
	for i, b := range g.Blocks {
		if !x.Reached[i] || b.Term.Kind == api.TermBranch && x.Cells[b.Term.Arg].Kind == api.Known {
			return false
		}
		for _, ins := range b.Ins {
			if ins.Kind == api.InsConst {
				constant[ins.Dst] = true
			}
		}
	}
	for v, c := range x.Cells {
		if c.Kind == api.Known && !constant[v] {
			return false
		}
	}
	return true
}

// isKept tells whether a trace is kept, in no more steps, by another one.
func isKept(a, b api.Trace) bool {
	switch a.End {
	case api.Told, api.Trapped:
		return b.End == a.End && b.Value == a.Value && b.Trap == a.Trap && slices.Equal(a.Shows, b.Shows) && b.Depth == a.Depth && b.Steps <= a.Steps
	case api.Deep:
		return b.End == api.Deep && slices.Equal(a.Shows, b.Shows)
	}
	return len(a.Shows) <= len(b.Shows) && slices.Equal(a.Shows, b.Shows[:len(a.Shows)])
}

// isSame tells whether two traces are the same.
func isSame(a, b api.Trace) bool {
	return slices.Equal(a.Shows, b.Shows) && a.End == b.End && a.Value == b.Value && a.Trap == b.Trap && a.Steps == b.Steps && a.Depth == b.Depth
}

// sets tells whether an instruction sets its Dst.
func sets(x api.Ins) bool {
	return slices.Contains([]api.InsKind{api.InsPhi, api.InsConst, api.InsCopy, api.InsOp, api.InsCast, api.InsLoad, api.InsCall}, x.Kind)
}

// ends is how many To an end has.
func ends(e api.Term) int {
	switch e.Kind {
	case api.TermJump:
		return 1
	case api.TermBranch:
		return 2
	}
	return 0
}

// blocksAhead are those with an edge to a block, rising.
func blocksAhead(g api.Graph, to int) []int {
	var l []int
	for from, b := range g.Blocks {
		if slices.Contains(b.Term.To[:ends(b.Term)], to) {
			l = append(l, from)
		}
	}
	return l
}

// joint is the least cell that none of some is above.
func joint(l ...api.Cell) api.Cell {
	l = slices.DeleteFunc(slices.Clone(l), func(c api.Cell) bool { return c.Kind == api.Unseen })
	switch {
	case len(l) == 0:
		return unseen
	case slices.ContainsFunc(l, func(c api.Cell) bool { return c != l[0] }):
		return varying
	}
	return l[0]
}

// comesBy tells whether facts have an edge from one block, which they reach, to another one.
func comesBy(g api.Graph, x api.Facts, from, to int) bool {
	e := g.Blocks[from].Term
	for side := range ends(e) {
		if x.Reached[from] && x.Edges[from][side] && e.To[side] == to {
			return true
		}
	}
	return false
}

// makes is what facts make of themselves.
func makes(g api.Graph, x api.Facts) api.Facts {
	n := len(g.Blocks)
	y := api.Facts{Cells: make([]api.Cell, len(g.Vars)), Reached: make([]bool, n), Edges: make([][2]bool, n)}
	for _, v := range g.Params {
		y.Cells[v] = varying
	}
	for i, b := range g.Blocks {
		ahead := blocksAhead(g, i)
		y.Reached[i] = i == 0 || slices.ContainsFunc(ahead, func(from int) bool { return comesBy(g, x, from, i) })
		if !x.Reached[i] {
			continue
		}
		y.Edges[i] = endMakes(x, b.Term)
		for _, ins := range b.Ins {
			if sets(ins) {
				y.Cells[ins.Dst] = insMakes(g, x, ins, i, ahead)
			}
		}
	}
	return y
}

func endMakes(x api.Facts, e api.Term) [2]bool {
	switch e.Kind {
	case api.TermJump:
		return [2]bool{true, false}
	case api.TermBranch:
		c := x.Cells[e.Arg]
		return [2]bool{c == known(1) || c == varying, c == known(0) || c == varying}
	}
	return [2]bool{}
}

func insMakes(g api.Graph, x api.Facts, ins api.Ins, at int, ahead []int) api.Cell {
	var args []api.Cell
	for i, v := range ins.Args {
		if ins.Kind != api.InsPhi || comesBy(g, x, ahead[i], at) {
			args = append(args, x.Cells[v])
		}
	}
	switch ins.Kind {
	case api.InsPhi:
		return joint(args...)
	case api.InsConst:
		return known(ins.Bits)
	case api.InsCopy:
		return args[0]
	case api.InsOp, api.InsCast:
		if slices.Contains(args, unseen) {
			return unseen
		}
		if slices.Contains(args, varying) {
			return varying
		}
		return known(runOf(g, ins, args))
	}
	return varying
}

// runOf is what an instruction tells in a run of its own, of words that are Known.
func runOf(g api.Graph, ins api.Ins, args []api.Cell) uint64 {
	n := len(args)
	h := api.Graph{Params: counted(0, n), Result: g.Vars[ins.Dst]}
	var words []uint64
	for i, v := range ins.Args {
		h.Vars = append(h.Vars, g.Vars[v])
		words = append(words, args[i].Bits)
	}
	h.Vars = append(h.Vars, h.Result)
	ins.Dst, ins.Args = n, counted(0, n)
	h.Blocks = []api.Block{block(back(n), ins)}
	trace, e := run.Run(alone(h), 0, words, 1, 1)
	if e != api.OK || trace.End != api.Told {
		panic("no run")
	}
	return trace.Value
}

// isCell tells whether a cell of a variable of that type is one.
func isCell(t api.Type, c api.Cell) bool {
	switch c.Kind {
	case api.Unseen, api.Varying:
		return c.Bits == 0
	case api.Known:
		return scalar.Right(t, c.Bits)
	}
	return false
}

// above is facts that hold, above some that have been bent: all that these make of themselves is laid to them.
func above(g api.Graph, x api.Facts) api.Facts {
	x = copiedFacts(x)
	for v, c := range x.Cells {
		if !isCell(g.Vars[v], c) {
			x.Cells[v] = varying
		}
	}
	for {
		was, y := copiedFacts(x), makes(g, x)
		for v := range x.Cells {
			x.Cells[v] = joint(x.Cells[v], y.Cells[v])
		}
		for i := range x.Reached {
			x.Reached[i] = x.Reached[i] || y.Reached[i]
			x.Edges[i] = [2]bool{x.Edges[i][0] || y.Edges[i][0], x.Edges[i][1] || y.Edges[i][1]}
		}
		if sameFacts(x, was) {
			return x
		}
	}
}
