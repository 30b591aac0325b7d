package gvn

import (
	"smithy/api"
	"smithy/dom"
	"smithy/graph"
)

// finder goes down the tree of blocks of a graph that is set once, and finds who holds the word of each variable.
type finder struct {
	g      api.Graph
	under  [][]int          // the blocks of which each is the nearest one
	holder []int            // of each variable; itself, unless another one holds its word already
	shelf  map[reckoned]int // who holds what was reckoned, from the entry down to here
	row    []reckoned       // what stands on the shelf, as it was put there
}

// visit is a block that is gone through, with the blocks under it that are still to come, and how much stood on the shelf ahead of it.
type visit struct {
	under []int
	mark  int
}

// holders is for each variable of a graph that is set once the variable that holds its word, and is set wherever it is.
func holders(g api.Graph) []int {
	f := &finder{g: g, under: dom.Under(treeOf(g)), holder: make([]int, len(g.Vars)), shelf: map[reckoned]int{}}
	for v := range f.holder {
		f.holder[v] = v
	}
	f.down()
	return f.holder
}

// treeOf is for each block its nearest one over it.
func treeOf(g api.Graph) []int {
	next := make([][]int, len(g.Blocks))
	for i, b := range g.Blocks {
		next[i] = graph.Next(b)
	}
	tree, _ := dom.Tree(next)
	return tree
}

// down keeps its own path: blocks may stand under one another by millions, which Go's stack would not bear.
func (f *finder) down() {
	for path := []visit{f.enter(0)}; len(path) > 0; {
		at := &path[len(path)-1]
		if len(at.under) == 0 {
			f.leave(at.mark)
			path = path[:len(path)-1]
			continue
		}
		block := at.under[0]
		at.under = at.under[1:]
		path = append(path, f.enter(block))
	}
}

// enter goes through a block. What it asks was found ahead of it, but for what its phis ask, of which nothing is made.
func (f *finder) enter(block int) visit {
	at := visit{under: f.under[block], mark: len(f.row)}
	for _, x := range f.g.Blocks[block].Ins {
		if x.Kind == api.InsCopy {
			f.holder[x.Dst] = f.holder[x.Args[0]]
		} else if r, ok := reckons(f.g, x, f.holder); ok {
			f.find(r, x.Dst)
		}
	}
	return at
}

// find is who holds what a variable is set to: if nobody does, from here on the variable itself.
func (f *finder) find(r reckoned, v int) {
	if holder, ok := f.shelf[r]; ok {
		f.holder[v] = holder
		return
	}
	f.shelf[r] = v
	f.row = append(f.row, r)
}

// leave takes off the shelf what a block has put there: the block does not stand over those that come next.
func (f *finder) leave(mark int) {
	for _, r := range f.row[mark:] {
		delete(f.shelf, r)
	}
	f.row = f.row[:mark]
}
