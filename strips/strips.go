// Package strips tells what is live in a graph, 64 variables at a time (shared/doc/12-live.md, Words). Layers share it that need not have all of it at once: for all variables together it may be as long as there are blocks times variables.
package strips

import (
	"math/bits"
	"slices"

	"smithy/api"
	"smithy/shape"
)

// Width is how many variables a strip has at most: a word has a bit for each.
const Width = 64

// none stands where a variable is in no strip.
const none = -1

// Strip is up to 64 variables, and what blocks do with them. Blocks that do nothing with any of them are not in it: so all strips together are no longer than the graph.
type Strip struct {
	Vars  []int  // by their bits, the lowest one first
	Sets  []Mark // variables that a block sets; blocks rise
	asks  []Mark // that it asks ahead of setting them; blocks rise
	hands []Mark // that phis of blocks next to it ask at its end
}

// Mark is some of a strip's variables, and a block that does something with them.
type Mark struct {
	Block int
	Vars  uint64
}

// Of is some variables of a graph, which is right by itself, as strips. Ahead is graph.Ahead of it.
func Of(g api.Graph, ahead [][]int, vars []int) []Strip {
	c := cut{place: slices.Repeat([]int{none}, len(g.Vars))}
	for i, v := range vars {
		c.place[v] = i
	}
	for part := range slices.Chunk(vars, Width) {
		c.strips = append(c.strips, Strip{Vars: part})
	}
	for i, b := range g.Blocks {
		for _, x := range b.Ins {
			if x.Kind == api.InsPhi {
				c.hand(ahead[i], x.Args)
			} else {
				c.ask(i, x.Args)
			}
			if shape.Sets(x) {
				c.set(i, x.Dst)
			}
		}
		if shape.Asks(b.Term) {
			c.ask(i, []int{b.Term.Arg})
		}
	}
	return c.strips
}

// Told is a row with those of a strip's variables behind it that a word has.
func (s Strip) Told(row []int, word uint64) []int {
	row = slices.Grow(row, bits.OnesCount64(word))
	for ; word != 0; word &= word - 1 {
		row = append(row, s.Vars[bits.TrailingZeros64(word)])
	}
	return row
}

// cut is strips while they are filled.
type cut struct {
	strips []Strip
	place  []int // of each variable, in the row of all that are in strips
}

// of is a variable's strip, and its bit there; no bit, if it is in none.
func (c *cut) of(v int) (*Strip, uint64) {
	i := c.place[v]
	if i == none {
		return nil, 0
	}
	return &c.strips[i/Width], 1 << (i % Width)
}

// hand lays a phi's arguments to the ends of the blocks that they stand for.
func (c *cut) hand(ahead, args []int) {
	for i, arg := range args {
		if s, v := c.of(arg); v != 0 {
			s.hands = laid(s.hands, ahead[i], v)
		}
	}
}

// ask lays to a block what it asks, but for what it has set by now.
func (c *cut) ask(block int, args []int) {
	for _, arg := range args {
		if s, v := c.of(arg); v != 0 && last(s.Sets, block)&v == 0 {
			s.asks = laid(s.asks, block, v)
		}
	}
}

func (c *cut) set(block, dst int) {
	if s, v := c.of(dst); v != 0 {
		s.Sets = laid(s.Sets, block, v)
	}
}

// last is the variables of a row's last mark, if that is of this block.
func last(row []Mark, block int) uint64 {
	if n := len(row); n > 0 && row[n-1].Block == block {
		return row[n-1].Vars
	}
	return 0
}

// laid is a row with some variables more at a block.
func laid(row []Mark, block int, vars uint64) []Mark {
	if last(row, block) == 0 {
		return append(row, Mark{block, vars})
	}
	row[len(row)-1].Vars |= vars
	return row
}
