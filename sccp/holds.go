package sccp

import (
	"smithy/api"
	"smithy/scalar"
	"smithy/shape"
)

// isWhole tells whether facts have as many parts as a graph has.
func isWhole(g api.Graph, x api.Facts) bool {
	return len(x.Cells) == len(g.Vars) && len(x.Reached) == len(g.Blocks) && len(x.Edges) == len(g.Blocks)
}

// areCells tells whether cells, of variables of these types, are told as they must be.
func areCells(types []api.Type, cells []api.Cell) bool {
	for v, c := range cells {
		if c != plain(c) || c.Kind == api.Known && !scalar.Right(types[v], c.Bits) {
			return false
		}
	}
	return true
}

// covers tells whether what the facts make of themselves is nowhere above them.
func (w *view) covers() bool {
	if !w.facts.Reached[0] {
		return false
	}
	for _, v := range w.g.Params {
		if !w.coversCell(v, varying()) {
			return false
		}
	}
	for i := range w.g.Blocks {
		if w.facts.Reached[i] && !w.coversBlock(i) {
			return false
		}
	}
	return true
}

// coversCell asks it of a variable of which the facts make this cell.
func (w *view) coversCell(v int, made api.Cell) bool {
	return Meet(made, w.facts.Cells[v]) == w.facts.Cells[v]
}

// coversBlock asks it of what a block makes that is reached.
func (w *view) coversBlock(block int) bool {
	b := w.g.Blocks[block]
	for _, x := range b.Ins {
		if shape.Sets(x) && x.Kind != api.InsPhi && !w.coversCell(x.Dst, w.made(x)) {
			return false
		}
	}
	return w.coversEnd(block, b.Term) && w.coversPhis(block, phis(b))
}

// coversEnd asks it of a block's edges, and of the blocks to which they lead. Where an end names nothing To says the entry, which is reached: so it plays no part whether the facts have an edge there.
func (w *view) coversEnd(block int, end api.Term) bool {
	edges := w.facts.Edges[block]
	for side, is := range w.leads(end) {
		if is && !edges[side] || edges[side] && !w.facts.Reached[end.To[side]] {
			return false
		}
	}
	return true
}

// coversPhis asks it of phis: the meet of some cells is covered just if each of them is.
func (w *view) coversPhis(block int, phis []api.Ins) bool {
	for i, from := range w.ahead[block] {
		if !w.comes(from, block) {
			continue
		}
		for _, x := range phis {
			if !w.coversCell(x.Dst, w.facts.Cells[x.Args[i]]) {
				return false
			}
		}
	}
	return true
}
