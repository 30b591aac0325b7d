package graph

import (
	"slices"

	"smithy/api"
)

// deepest is how many calls of the walk may stand in one another: blocks may stand one behind another by millions, which Go's stack would not bear.
const deepest = 1 << 12

// Order is the blocks that are reached from the entry, in reverse postorder.
func Order(g api.Graph) []int {
	if len(g.Blocks) == 0 {
		return nil
	}
	met := make([]bool, len(g.Blocks))
	var path, left []int
	meet := func(at int) {
		met[at] = true
		path = append(path, at)
	}
	// walk goes through the last block of the path. Where it is too deep it gives up, with all calls about it: the path knows where to go on, since what was met is not gone to again.
	var walk func(deep int) bool
	walk = func(deep int) bool {
		at := path[len(path)-1]
		for _, to := range named(g.Blocks[at].Term) {
			if !isPlace(to, len(met)) || met[to] {
				continue
			}
			meet(to)
			if deep == deepest || !walk(deep+1) {
				return false
			}
		}
		path = path[:len(path)-1]
		left = append(left, at)
		return true
	}
	meet(0)
	for len(path) > 0 {
		walk(0)
	}
	slices.Reverse(left)
	return left
}
