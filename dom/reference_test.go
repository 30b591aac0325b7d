package dom_test

// The words themselves, as slow as they stand there.

const nobody = -1

// reached tells which nodes are reached, where the edges of one are taken out.
func reached(next [][]int, without int) []bool {
	met := make([]bool, len(next))
	met[0] = true
	for changed := true; changed; {
		changed = false
		for i, edges := range next {
			for _, to := range edges {
				if met[i] && i != without && !met[to] {
					met[to], changed = true, true
				}
			}
		}
	}
	return met
}

// slowOver tells for each two nodes whether the first one stands over the other.
func slowOver(next [][]int) [][]bool {
	all := reached(next, nobody)
	over := make([][]bool, len(next))
	for a := range next {
		over[a] = make([]bool, len(next))
		left := reached(next, a)
		for b := range next {
			over[a][b] = all[a] && all[b] && (a == b || !left[b])
		}
	}
	return over
}

// slowTree is, for each node, the one strictly over it that all others strictly over it stand over.
func slowTree(next [][]int) []int {
	over := slowOver(next)
	tree := make([]int, len(next))
	for b := range next {
		tree[b] = nobody
		for a := range next {
			nearest := a != b && over[a][b]
			for c := range next {
				nearest = nearest && (c == b || !over[c][b] || over[c][a])
			}
			if nearest {
				tree[b] = a
			}
		}
	}
	return tree
}

// slowMet tells whether a is b, or is met on the way up from b.
func slowMet(tree []int, a, b int) bool {
	isPlace := func(i int) bool { return i >= 0 && i < len(tree) }
	if !isPlace(a) || !isPlace(b) {
		return false
	}
	seen := make([]bool, len(tree))
	for isPlace(b) && !seen[b] {
		if a == b {
			return true
		}
		seen[b] = true
		b = tree[b]
	}
	return false
}

// slowUnder is for each place the places that have it.
func slowUnder(tree []int) [][]int {
	under := make([][]int, len(tree))
	for over := range tree {
		for i, at := range tree {
			if at == over {
				under[over] = append(under[over], i)
			}
		}
	}
	return under
}
