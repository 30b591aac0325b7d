package sccp

import (
	"smithy/api"
	"smithy/graph"
	"smithy/scalar"
)

// view is a graph that is set once, with facts that have all parts: it tells what these make of themselves.
type view struct {
	g     api.Graph
	ahead [][]int
	facts api.Facts
}

func viewOf(g api.Graph, x api.Facts) *view {
	return &view{g: g, ahead: graph.Ahead(g), facts: x}
}

func known(word uint64) api.Cell {
	return api.Cell{Kind: api.Known, Bits: word}
}

func varying() api.Cell {
	return api.Cell{Kind: api.Varying}
}

// plain is a cell as it is told: without Bits that say nothing, and of a kind that there is.
func plain(c api.Cell) api.Cell {
	switch c.Kind {
	case api.Unseen:
		return api.Cell{}
	case api.Known:
		return c
	}
	return varying()
}

// made is the cell that an instruction makes, which sets something and is no phi.
func (w *view) made(x api.Ins) api.Cell {
	switch x.Kind {
	case api.InsConst:
		return known(x.Bits)
	case api.InsCopy:
		return w.facts.Cells[x.Args[0]]
	case api.InsOp, api.InsCast:
		return w.reckoned(x)
	}
	return varying()
}

// reckoned is the cell that an operation or a cast makes. Unseen counts for more than Varying here: where an argument is never set nothing is reckoned.
func (w *view) reckoned(x api.Ins) api.Cell {
	kind := api.Known
	for _, v := range x.Args {
		switch w.facts.Cells[v].Kind {
		case api.Unseen:
			return api.Cell{}
		case api.Varying:
			kind = api.Varying
		}
	}
	if kind == api.Varying {
		return varying()
	}
	return known(w.word(x))
}

// word is what an operation or a cast makes of arguments that are all Known.
func (w *view) word(x api.Ins) uint64 {
	from, first := w.g.Vars[x.Args[0]], w.bits(x.Args[0])
	var told uint64
	switch {
	case x.Kind == api.InsCast:
		told, _ = scalar.Turn(w.g.Vars[x.Dst], from, first)
	case len(x.Args) == 1:
		told, _ = scalar.One(x.Op, from, first)
	default:
		told, _ = scalar.Two(x.Op, from, first, w.bits(x.Args[1]))
	}
	return told
}

func (w *view) bits(v int) uint64 {
	return w.facts.Cells[v].Bits
}

// leads is which edges the end of a block makes that is reached.
func (w *view) leads(t api.Term) [2]bool {
	switch t.Kind {
	case api.TermJump:
		return [2]bool{true, false}
	case api.TermBranch:
		cell := w.facts.Cells[t.Arg]
		one := cell == known(1)
		return [2]bool{one || cell.Kind == api.Varying, !one && cell.Kind != api.Unseen}
	}
	return [2]bool{}
}

// comes tells whether control comes to a block from one that is ahead of it, by the facts. (Where an end names no block its To is 0, the entry: nothing is ahead of that, so it is never asked of it.)
func (w *view) comes(from, to int) bool {
	end, edges := w.g.Blocks[from].Term, w.facts.Edges[from]
	return w.facts.Reached[from] && (edges[0] && end.To[0] == to || edges[1] && end.To[1] == to)
}

// phis is those of a block.
func phis(b api.Block) []api.Ins {
	n := 0
	for n < len(b.Ins) && b.Ins[n].Kind == api.InsPhi {
		n++
	}
	return b.Ins[:n]
}
