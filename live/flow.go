package live

import (
	"math/bits"
	"slices"
)

// flow finds what is live of one strip after the other. Each of its sets is a row of words, a block's word being those of the strip's variables that are in it there. (Rows for all variables at once could be as long as 2^20 times 2^20 bits, where next to nothing is live.)
type flow struct {
	ahead           [][]int
	sets, into, out []uint64
	news            []uint64 // what is live into a block and was not handed on yet
	waiting         []int    // blocks with news
	met             []int    // blocks with something that is live
}

func newFlow(ahead [][]int) *flow {
	row := func() []uint64 { return make([]uint64, len(ahead)) }
	return &flow{ahead: ahead, sets: row(), into: row(), out: row(), news: row()}
}

// begin lays down what is live by itself, whatever is live elsewhere.
func (f *flow) begin(s strip) {
	for _, m := range s.sets {
		f.sets[m.block] = m.vars
	}
	for _, m := range s.asks {
		f.enter(m.block, m.vars)
	}
	for _, m := range s.hands {
		f.leave(m.block, m.vars)
	}
}

// settle hands on what is live into blocks to those ahead, till nothing changes. Each variable is handed on once by each block: so it takes no longer than what will be told is long, whichever block is gone through first.
func (f *flow) settle() {
again:
	left := len(f.waiting) - 1
	if left < 0 {
		return
	}
	block := f.waiting[left]
	f.waiting = f.waiting[:left]
	news := f.news[block]
	f.news[block] = 0
	for _, from := range f.ahead[block] {
		f.leave(from, news)
	}
	goto again
}

// leave makes variables live out of a block, and into it, unless it sets them.
func (f *flow) leave(block int, vars uint64) {
	f.meet(block)
	f.out[block] |= vars
	f.enter(block, vars&^f.sets[block])
}

// enter makes variables live into a block.
func (f *flow) enter(block int, vars uint64) {
	vars &^= f.into[block]
	if vars == 0 {
		return
	}
	f.meet(block)
	if f.news[block] == 0 {
		f.waiting = append(f.waiting, block)
	}
	f.news[block] |= vars
	f.into[block] |= vars
}

// meet is called ahead of making something live at a block.
func (f *flow) meet(block int) {
	if f.into[block]|f.out[block] == 0 {
		f.met = append(f.met, block)
	}
}

// tell lays what is live to the rows of all variables, of which the strip's first one is given.
func (f *flow) tell(first int, into, out [][]int) {
	for _, block := range f.met {
		into[block] = told(into[block], first, f.into[block])
		out[block] = told(out[block], first, f.out[block])
	}
}

// told is a row with the variables of a word behind it, rising.
func told(row []int, first int, vars uint64) []int {
	row = slices.Grow(row, bits.OnesCount64(vars))
	for ; vars != 0; vars &= vars - 1 {
		row = append(row, first+bits.TrailingZeros64(vars))
	}
	return row
}

// end makes all words 0 again that a strip has touched: others may be very many.
func (f *flow) end(s strip) {
	for _, m := range s.sets {
		f.sets[m.block] = 0
	}
	for _, block := range f.met {
		f.into[block], f.out[block] = 0, 0
	}
	f.met = f.met[:0]
}
