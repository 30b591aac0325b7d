package dom

import "slices"

// nearest is for each reached node the nearest one over it, all by their numbers. The nodes are gone through once, from the last one on (Lengauer's and Tarjan's way): setting each node's nearest one anew till all agree would take as many rounds as there are nodes in a circle that can be gone both ways.
func nearest(w walk, next [][]int) []int {
	f := bare(len(w.nodes))
	alike := counted(len(w.nodes))
	waiting := make([][]int, len(w.nodes))
	ahead := w.ahead(next)
	for at := len(w.nodes) - 1; at > 0; at-- {
		for _, i := range ahead[at] {
			f.high[at] = min(f.high[at], f.high[f.highest(i)])
		}
		from := w.from[at]
		waiting[f.high[at]] = append(waiting[f.high[at]], at)
		f.over[at] = from
		// Those whose high is from: all that stand between it and them hang together by now.
		for _, i := range waiting[from] {
			alike[i] = f.highest(i)
		}
		waiting[from] = nil
	}
	settle(alike)
	near := slices.Repeat([]int{none}, len(w.nodes))
	for i := 1; i < len(near); i++ {
		near[i] = f.high[alike[i]]
	}
	return near
}

// settle is told for each node another one, or itself, that has the same nearest one, and leads each to the last of these. A node is alike to one ahead of it at most: so one round does it all, and another one tells that nothing changes any more.
func settle(alike []int) {
rounds:
	for {
		changed := false
		for i, j := range alike {
			if alike[j] != j {
				alike[i] = alike[j]
				changed = true
			}
		}
		if !changed {
			break rounds
		}
	}
}

// forest is the nodes as trees: each that has been gone through hangs at the one from which the walk met it.
type forest struct {
	over []int // where a node hangs, or what is met further up; none: it is a root
	best []int // of a node and those ahead of over, the one whose high is least
	high []int // the least node from which some way leads to it between whose ends all nodes stand behind it
	path []int // room for highest
}

// bare is a forest in which nothing hangs at anything.
func bare(nodes int) forest {
	return forest{over: slices.Repeat([]int{none}, nodes), best: counted(nodes), high: counted(nodes)}
}

// highest is, of a node and those over it in its tree but for the root, the one whose high is least; a root's own is itself. What was climbed is hung at the root, so that nobody climbs it again.
func (f *forest) highest(at int) int {
	if f.over[at] == none {
		return at
	}
	f.path = f.path[:0]
	for i := at; f.over[f.over[i]] != none; i = f.over[i] {
		f.path = append(f.path, i)
	}
	for n := len(f.path) - 1; n >= 0; n-- {
		i := f.path[n]
		up := f.over[i]
		if f.high[f.best[up]] < f.high[f.best[i]] {
			f.best[i] = f.best[up]
		}
		f.over[i] = f.over[up]
	}
	return f.best[at]
}

// counted is the numbers from 0 on.
func counted(n int) []int {
	l := make([]int, n)
	for i := range l {
		l[i] = i
	}
	return l
}
