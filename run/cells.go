package run

// Cells of a graph are its variables and, behind all of them, its arrays. A call keeps only those cells that it has set: graphs may have a million of them, and a million calls of such a graph may live at once.

// setting is what a call set a cell to.
type setting struct {
	cell  int
	older int    // the number of the setting that was the cell's newest one, by a call further out; 0 is none
	word  uint64 // a variable's; of an array the place of its first element among the rows
}

// find is the number of the setting of a cell by the last call; 0, if that has not set it.
func (r *runner) find(cell int) int {
	now := r.now()
	if n := r.called[now.graph].newest[cell]; n > now.kept {
		return n
	}
	return 0
}

// get is a variable's word: 0, till the call sets it.
func (r *runner) get(cell int) uint64 {
	if n := r.find(cell); n > 0 {
		return r.kept[n-1].word
	}
	return 0
}

// read is the words of some variables.
func (r *runner) read(vars []int) []uint64 {
	r.words = r.words[:0]
	for _, v := range vars {
		r.words = append(r.words, r.get(v))
	}
	return r.words
}

func (r *runner) set(cell int, word uint64) {
	if n := r.find(cell); n > 0 {
		r.kept[n-1].word = word
		return
	}
	newest := r.called[r.now().graph].newest
	r.kept = append(r.kept, setting{cell: cell, older: newest[cell], word: word})
	newest[cell] = len(r.kept)
}

// forget gives up what the last call has set: calls of the same graph further out find their own again.
func (r *runner) forget() {
	now := r.now()
	newest := r.called[now.graph].newest
	for _, s := range r.kept[now.kept:] {
		newest[s.cell] = s.older
	}
	r.kept, r.rows = r.kept[:now.kept], r.rows[:now.rows]
}
