package front_test

// The words themselves, as slow as they stand there.

const nobody = -1

// reached tells which nodes are reached, where the edges of one are taken out.
func reached(next [][]int, without int) []bool {
	met := make([]bool, len(next))
	met[0] = true
	for changed := true; changed; {
		changed = false
		for i, edges := range next {
			for _, to := range edges {
				if met[i] && i != without && !met[to] {
					met[to], changed = true, true
				}
			}
		}
	}
	return met
}

// slowOver tells for each two nodes whether the first one stands over the other.
func slowOver(next [][]int) [][]bool {
	all := reached(next, nobody)
	over := make([][]bool, len(next))
	for a := range next {
		over[a] = make([]bool, len(next))
		left := reached(next, a)
		for b := range next {
			over[a][b] = all[a] && all[b] && (a == b || !left[b])
		}
	}
	return over
}

// slowFronts is for each node those to which an edge leads from what it stands over, and that it does not stand strictly over.
func slowFronts(next [][]int, over [][]bool) [][]int {
	fronts := make([][]int, len(next))
	for a := range next {
		led := make([]bool, len(next))
		for i, edges := range next {
			for _, b := range edges {
				led[b] = led[b] || over[a][i]
			}
		}
		for b := range next {
			if led[b] && (a == b || !over[a][b]) {
				fronts[a] = append(fronts[a], b)
			}
		}
	}
	return fronts
}

// slowJoins is the least set in which are the fronts of these nodes, and of those in it.
func slowJoins(fronts [][]int, from []int) []int {
	is := make([]bool, len(fronts))
	lay := func(a int) (changed bool) {
		for _, b := range fronts[a] {
			changed = changed || !is[b]
			is[b] = true
		}
		return changed
	}
	for _, a := range from {
		lay(a)
	}
	for changed := true; changed; {
		changed = false
		for a := range is {
			changed = is[a] && lay(a) || changed
		}
	}
	var joins []int
	for a := range is {
		if is[a] {
			joins = append(joins, a)
		}
	}
	return joins
}

// lastMarks is for each node all marks that may be the last one, whichever way one comes from the entry: each node and mark is gone on from once, along all edges.
func lastMarks(next [][]int, marked []bool) [][]int {
	last := make([][]int, len(next))
	met := map[[2]int]int{{0, 0}: 1}
	for row := [][2]int{{0, 0}}; len(row) > 0; row = row[1:] {
		at, mark := row[0][0], row[0][1]
		last[at] = append(last[at], mark)
		for _, to := range next[at] {
			then := [2]int{to, mark}
			if marked[to] {
				then[1] = to
			}
			if met[then] == 0 {
				met[then] = 1
				row = append(row, then)
			}
		}
	}
	return last
}

// nearestMark is the mark of the nearest node over a reached one, or of it itself, that has one: all others that are marked and over it stand over that one.
func nearestMark(over [][]bool, marked []bool, b int) int {
	nearest := 0
	for a := range marked {
		if marked[a] && over[a][b] && over[nearest][a] {
			nearest = a
		}
	}
	return nearest
}
