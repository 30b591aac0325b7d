package ssa

import (
	"smithy/api"
	"smithy/dom"
	"smithy/graph"
)

// net is the blocks of a graph, which are all reached, with their edges, and which of them stand over which.
type net struct {
	next, ahead [][]int
	nearest     []int   // the nearest block over each
	under       [][]int // the blocks of which each is the nearest one
	row         []int   // all blocks, those that a block stands over right behind it
	place       []int   // where each block stands in row
	past        []int   // the place behind those that a block stands over
}

func netOf(g api.Graph) net {
	n := net{next: make([][]int, len(g.Blocks)), ahead: graph.Ahead(g)}
	for i, b := range g.Blocks {
		n.next[i] = graph.Next(b)
	}
	n.nearest, _ = dom.Tree(n.next)
	n.under = dom.Under(n.nearest)
	n.place, n.past = make([]int, len(n.next)), make([]int, len(n.next))
	for waiting := []int{0}; len(waiting) > 0; {
		last := len(waiting) - 1
		block := waiting[last]
		waiting = append(waiting[:last], n.under[block]...)
		n.place[block] = len(n.row)
		n.row = append(n.row, block)
		n.past[block] = len(n.row)
	}
	for i := len(n.row) - 1; i > 0; i-- {
		over := n.nearest[n.row[i]]
		n.past[over] = max(n.past[over], n.past[n.row[i]])
	}
	return n
}

// over tells whether a block stands over another one, or is that one. (dom.Over climbs from block to block: that takes too long where it is asked for each use.)
func (n net) over(a, b int) bool {
	return n.place[a] <= n.place[b] && n.place[b] < n.past[a]
}

// strictlyOver tells whether a block stands over another one, and is not that one.
func (n net) strictlyOver(a, b int) bool {
	return a != b && n.over(a, b)
}
