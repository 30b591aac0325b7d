package graph

import (
	"cmp"
	"slices"

	"smithy/api"
)

// Trim is a graph with just the blocks that are reached, in the order of Order.
func Trim(g api.Graph) api.Graph {
	order, ahead := Order(g), Ahead(g)
	places := placesNow(order, len(g.Blocks))
	var blocks []api.Block
	for _, at := range order {
		blocks = append(blocks, trimmed(g.Blocks[at], staying(ahead[at], places), places))
	}
	g.Blocks = blocks
	g.Params, g.Vars, g.Arrays = slices.Clone(g.Params), slices.Clone(g.Vars), slices.Clone(g.Arrays)
	return g
}

const gone = -1

// placesNow is where each of so many blocks stands in the new order.
func placesNow(order []int, blocks int) []int {
	places := slices.Repeat([]int{gone}, blocks)
	for i, at := range order {
		places[at] = i
	}
	return places
}

// staying is which of the blocks that were ahead still are, by their places among them, in the order in which they stand now.
func staying(ahead, places []int) []int {
	var stay []int
	for i, at := range ahead {
		if places[at] != gone {
			stay = append(stay, i)
		}
	}
	slices.SortFunc(stay, func(a, b int) int { return cmp.Compare(places[ahead[a]], places[ahead[b]]) })
	return stay
}

func trimmed(b api.Block, stay, places []int) api.Block {
	now := api.Block{Term: led(b.Term, places)}
	for _, x := range b.Ins {
		if x.Kind == api.InsPhi {
			x.Args = kept(x.Args, stay)
		} else {
			x.Args = slices.Clone(x.Args)
		}
		now.Ins = append(now.Ins, x)
	}
	return now
}

// led is an end that leads to the same blocks where they stand now. What a block that is reached names is reached, too.
func led(t api.Term, places []int) api.Term {
	for i, to := range named(t) {
		if isPlace(to, len(places)) {
			t.To[i] = places[to]
		}
	}
	return t
}

// kept is a phi's arguments for the blocks that are still ahead.
func kept(args, stay []int) []int {
	var l []int
	for _, i := range stay {
		if i < len(args) {
			l = append(l, args[i])
		}
	}
	return l
}
