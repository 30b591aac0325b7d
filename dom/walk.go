package dom

import "slices"

// walk is the nodes that are reached, by their numbers: in the order in which a walk from the entry met them that went on as deep as it could.
type walk struct {
	nodes []int
	from  []int // numbers of those from which they were met: none for the entry
	place []int // each node's number; none, if it is not reached
}

func walked(next [][]int) walk {
	w := walk{place: slices.Repeat([]int{none}, len(next))}
	var gone []int // along how many of a node's edges the walk has looked
	at := none
	meet := func(node int) {
		w.place[node] = len(w.nodes)
		w.nodes, w.from, gone = append(w.nodes, node), append(w.from, at), append(gone, 0)
		at = w.place[node]
	}
	// leave goes on to a node that was not met yet, or else back. The walk calls itself nowhere, since rows of nodes may be longer than Go's stack would bear.
	leave := func() {
		edges := next[w.nodes[at]]
		for gone[at] < len(edges) {
			to := edges[gone[at]]
			gone[at]++
			if w.place[to] == none {
				meet(to)
				return
			}
		}
		at = w.from[at]
	}
	meet(0)
	for at != none {
		leave()
	}
	return w
}

// ahead is, by numbers, for each reached node those reached ones with an edge to it.
func (w walk) ahead(next [][]int) [][]int {
	ahead := make([][]int, len(w.nodes))
	for i, node := range w.nodes {
		for _, to := range next[node] {
			ahead[w.place[to]] = append(ahead[w.place[to]], i)
		}
	}
	return ahead
}
