package strips

// Flow finds what is live of one strip after the other. Each of its sets is a row of words, a block's word being those of the strip's variables that are in it there.
type Flow struct {
	Into, Out []uint64 // what is live into blocks, and out of them
	Met       []int    // blocks with something that is live
	ahead     [][]int
	sets      []uint64
	news      []uint64 // what is live into a block and was not handed on yet
	waiting   []int    // blocks with news
}

// New is for the strips of a graph of which graph.Ahead tells this; nothing is live yet.
func New(ahead [][]int) *Flow {
	row := func() []uint64 { return make([]uint64, len(ahead)) }
	return &Flow{Into: row(), Out: row(), ahead: ahead, sets: row(), news: row()}
}

// Fill finds what is live of a strip, where nothing is live yet.
func (f *Flow) Fill(s Strip) {
	for _, m := range s.Sets {
		f.sets[m.Block] = m.Vars
	}
	for _, m := range s.asks {
		f.enter(m.Block, m.Vars)
	}
	for _, m := range s.hands {
		f.leave(m.Block, m.Vars)
	}
	f.settle()
}

// Empty makes all words 0 again that a strip has touched: others may be very many.
func (f *Flow) Empty(s Strip) {
	for _, m := range s.Sets {
		f.sets[m.Block] = 0
	}
	for _, block := range f.Met {
		f.Into[block], f.Out[block] = 0, 0
	}
	f.Met = f.Met[:0]
}

// settle hands on what is live into blocks to those ahead, till nothing changes. Each variable is handed on once by each block: so it takes no longer than what is live is long, whichever block is gone through first.
func (f *Flow) settle() {
again:
	left := len(f.waiting) - 1
	if left < 0 {
		return
	}
	block := f.waiting[left]
	f.waiting = f.waiting[:left]
	news := f.news[block]
	f.news[block] = 0
	for _, from := range f.ahead[block] {
		f.leave(from, news)
	}
	goto again
}

// leave makes variables live out of a block, and into it, unless it sets them.
func (f *Flow) leave(block int, vars uint64) {
	f.meet(block)
	f.Out[block] |= vars
	f.enter(block, vars&^f.sets[block])
}

// enter makes variables live into a block.
func (f *Flow) enter(block int, vars uint64) {
	vars &^= f.Into[block]
	if vars == 0 {
		return
	}
	f.meet(block)
	if f.news[block] == 0 {
		f.waiting = append(f.waiting, block)
	}
	f.news[block] |= vars
	f.Into[block] |= vars
}

// meet is called ahead of making something live at a block.
func (f *Flow) meet(block int) {
	if f.Into[block]|f.Out[block] == 0 {
		f.Met = append(f.Met, block)
	}
}
