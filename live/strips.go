package live

import (
	"smithy/api"
	"smithy/shape"
)

// width is how many variables a word holds, one by each bit.
const width = 64

// strip is what blocks do with the variables of one word. Blocks that do nothing with any of them are not in it: so all strips together are no longer than the graph.
type strip struct {
	sets  []mark // variables that a block sets
	asks  []mark // that it asks ahead of setting them
	hands []mark // that phis of blocks next to it ask at its end
}

// mark is some of a strip's variables, and a block that does something with them.
type mark struct {
	block int
	vars  uint64
}

// strips is for each 64 variables of a graph, which is right by itself, what its blocks do with them; blocks rise in sets and in asks.
func strips(g api.Graph, ahead [][]int) []strip {
	all := make([]strip, (len(g.Vars)+width-1)/width)
	for i, b := range g.Blocks {
		for _, x := range b.Ins {
			if x.Kind == api.InsPhi {
				hand(all, ahead[i], x.Args)
			} else {
				ask(all, i, x.Args)
			}
			if shape.Sets(x) {
				s, v := of(all, x.Dst)
				s.sets = laid(s.sets, i, v)
			}
		}
		if shape.Asks(b.Term) {
			ask(all, i, []int{b.Term.Arg})
		}
	}
	return all
}

// hand lays a phi's arguments to the ends of the blocks that they stand for.
func hand(all []strip, ahead, args []int) {
	for i, arg := range args {
		s, v := of(all, arg)
		s.hands = laid(s.hands, ahead[i], v)
	}
}

// ask lays to a block what it asks, but for what it has set by now.
func ask(all []strip, block int, args []int) {
	for _, arg := range args {
		if s, v := of(all, arg); last(s.sets, block)&v == 0 {
			s.asks = laid(s.asks, block, v)
		}
	}
}

// of is a variable's strip, and its bit there.
func of(all []strip, v int) (*strip, uint64) {
	return &all[v/width], 1 << (v % width)
}

// last is the variables of a row's last mark, if that is of this block.
func last(row []mark, block int) uint64 {
	if n := len(row); n > 0 && row[n-1].block == block {
		return row[n-1].vars
	}
	return 0
}

// laid is a row with some variables more at a block.
func laid(row []mark, block int, vars uint64) []mark {
	if last(row, block) == 0 {
		return append(row, mark{block, vars})
	}
	row[len(row)-1].vars |= vars
	return row
}
