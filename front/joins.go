package front

import (
	"slices"

	"smithy/dom"
)

// joined is the joins of some nodes. All fronts together may be as many as the nodes' number times itself, so only those that are asked for are gathered, and each node is gone through once (Sreedhar's and Gao's way).
func joined(next [][]int, tree, from []int) []int {
	under := dom.Under(tree)
	depth := depths(under)
	waiting := map[int][]int{} // by their depths
	waited, gone, isJoin := make([]bool, len(next)), make([]bool, len(next)), make([]bool, len(next))
	wait := func(node int) {
		if !waited[node] && depth[node] != none {
			waited[node] = true
			waiting[depth[node]] = append(waiting[depth[node]], node)
		}
	}
	// gather finds a node's front: what edges lead to, from all that it stands over, that is no deeper than it is itself. Where another one came by already nothing is left to find, since that one was as deep at least.
	gather := func(top int) {
		for _, at := range fresh(top, under, gone) {
			for _, to := range next[at] {
				if depth[to] <= depth[top] {
					isJoin[to] = true
					wait(to)
				}
			}
		}
	}
	for _, node := range from {
		wait(node)
	}
	// What begins to wait meanwhile is no deeper than what it was found by.
	for d := len(next) - 1; len(waiting) > 0; d-- {
		for nodes := waiting[d]; len(nodes) > 0; nodes = waiting[d] {
			delete(waiting, d)
			for _, node := range nodes {
				gather(node)
			}
		}
	}
	return places(isJoin)
}

// fresh is a node and all that it stands over, but for what was gone through already; these are marked as gone through now.
func fresh(top int, under [][]int, gone []bool) []int {
	row := []int{top}
	for i := 0; i < len(row); i++ {
		gone[row[i]] = true
		for _, node := range under[row[i]] {
			if !gone[node] {
				row = append(row, node)
			}
		}
	}
	return row
}

// depths is for each node how many stand strictly over it; none, if it is not reached.
func depths(under [][]int) []int {
	depth := slices.Repeat([]int{none}, len(under))
	depth[0] = 0
	row := []int{0}
	for i := 0; i < len(row); i++ {
		for _, node := range under[row[i]] {
			depth[node] = depth[row[i]] + 1
			row = append(row, node)
		}
	}
	return depth
}

// places is where a list has true.
func places(l []bool) []int {
	var at []int
	for i, is := range l {
		if is {
			at = append(at, i)
		}
	}
	return at
}
