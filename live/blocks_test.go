package live_test

import (
	"slices"
	"testing"

	"smithy/api"
)

func TestLoops(t *testing.T) {
	g := truths(4, block(jump(1), constant(0)), block(branch(1, 2, 3)), block(jump(1), copyOf(0, 2)), block(back(0)))
	wantLive(t, "a loop that sets what is told behind it", g, rows(row(1, 2), row(0, 1, 2), row(1, 2), row(0)), rows(row(0, 1, 2), row(0, 1, 2), row(0, 1, 2), nil))
	g = truths(4, block(jump(1)), block(jump(2), copyOf(1, 0)), block(branch(1, 1, 3), constant(0)), block(trap(1)))
	wantLive(t, "asked in the next round", g, rows(row(0), row(0), row(1), nil), rows(row(0), row(1), row(0), nil))
	g = truths(4, block(jump(1)), block(branch(0, 1, 2), show(3)), block(trap(1)))
	wantLive(t, "a block that leads to itself", g, rows(row(0, 3), row(0, 3), nil), rows(row(0, 3), row(0, 3), nil))
	g = truths(4, block(jump(1)), block(jump(1), show(3), constant(3)))
	wantLive(t, "for ever, set behind it", g, rows(row(3), row(3)), rows(row(3), row(3)))
	g = truths(4, block(jump(1)), block(jump(1), constant(3), show(3)))
	wantLive(t, "for ever, set ahead of it", g, rows(nil, nil), rows(nil, nil))
	g = truths(4, block(jump(1)), block(jump(1)))
	wantLive(t, "for ever, nothing", g, rows(nil, nil), rows(nil, nil))
}

// Three loops in one another: what the innermost asks, and only the outermost sets, is live around all.
func TestLoopsInLoops(t *testing.T) {
	g := truths(8,
		block(jump(1)),
		block(jump(2), constant(0)),
		block(jump(3), constant(1)),
		block(branch(6, 3, 4), show(0), show(1), copyOf(2, 3)),
		block(branch(6, 2, 5)),
		block(branch(6, 1, 6), show(2)),
		block(back(4)))
	wantLive(t, "three", g,
		rows(row(3, 4, 6), row(3, 4, 6), row(0, 3, 4, 6), row(0, 1, 3, 4, 6), row(0, 2, 3, 4, 6), row(2, 3, 4, 6), row(4)),
		rows(row(3, 4, 6), row(0, 3, 4, 6), row(0, 1, 3, 4, 6), row(0, 1, 2, 3, 4, 6), row(0, 2, 3, 4, 6), row(3, 4, 6), nil))
	wantWords(t, "three, by the words", g)
}

// A loop with two ways into it.
func TestLoopOfTwoEntries(t *testing.T) {
	g := truths(5, block(branch(0, 1, 2)), block(jump(2), constant(1), show(2)), block(branch(3, 1, 3), show(1), constant(2)), block(trap(1)))
	wantLive(t, "two entries", g, rows(row(0, 1, 2, 3), row(2, 3), row(1, 3), nil), rows(row(1, 2, 3), row(1, 3), row(2, 3), nil))
}

// Blocks that are not reached have what is live, as others do, and are ahead of those they lead to.
func TestBlocksThatAreNotReached(t *testing.T) {
	g := truths(5, block(jump(1)), block(back(0)), block(jump(1), constant(0), show(1)), block(branch(2, 2, 4)), block(jump(4), show(3)))
	wantLive(t, "leading to reached ones, to others, round and round", g, rows(row(0), row(0), row(1), row(1, 2, 3), row(3)), rows(row(0), nil, row(0), row(1, 3), row(3)))
	g = truths(3, block(trap(1)), block(jump(2)), block(jump(1), show(2)))
	wantLive(t, "a circle by itself", g, rows(nil, row(2), row(2)), rows(nil, row(2), row(2)))
}

func TestBothWaysOfABranch(t *testing.T) {
	g := truths(6, block(branch(0, 1, 2)), block(jump(3), constant(1), show(2)), block(jump(3), constant(2), show(3)), block(trap(1), show(1), show(2)))
	wantLive(t, "set on one way, asked on the other", g, rows(row(0, 1, 2, 3), row(2), row(1, 3), row(1, 2)), rows(row(1, 2, 3), row(1, 2), row(1, 2), nil))
	g.Blocks[0].Ins = []api.Ins{constant(1), constant(2), constant(3), constant(0)}
	wantLive(t, "all set ahead", g, rows(nil, row(2), row(1, 3), row(1, 2)), rows(row(1, 2, 3), row(1, 2), row(1, 2), nil))
}

// edges of variables' places in words of 64 bits.
var wordEdges = []int{1, 2, 31, 32, 33, 62, 63, 64, 65, 66, 127, 128, 129, 191, 192, 193, 255, 256, 257, 1000, 4095, 4096, 4097}

// As many variables as fill words of a set just so, and some more or less.
func TestManyVariables(t *testing.T) {
	for _, n := range wordEdges {
		all := counted(0, n)
		var shows, settings []api.Ins
		for v := range n {
			shows, settings = append(shows, show(v)), append(settings, constant(v))
		}
		g := truths(n, block(jump(1)), block(trap(1), shows...))
		wantLive(t, "all asked", g, rows(all, all), rows(all, nil))
		slices.Reverse(shows)
		wantLive(t, "all asked, from the last one on", g, rows(all, all), rows(all, nil))
		g = truths(n, block(jump(1), settings...), block(branch(n-1, 1, 2), shows...), block(trap(1)))
		wantLive(t, "all set, and asked in a loop", g, rows(nil, all, nil), rows(all, all, nil))
		g = truths(n, block(jump(1)), block(jump(2), settings...), block(trap(1), shows...))
		wantLive(t, "all set in between", g, rows(nil, nil, all), rows(nil, all, nil))
		for v := max(0, n-66); v < n; v++ {
			g = truths(n, block(jump(1)), block(back(v)))
			wantLive(t, "one of them", g, rows(row(v), row(v)), rows(row(v), nil))
			g = truths(n, block(jump(1), settings[:v]...), block(trap(1), shows...))
			wantLive(t, "some of them set", g, rows(counted(v, n), all), rows(all, nil))
		}
	}
}

// Variables that stand at the same place of different words are no more alike than others.
func TestPlacesInWords(t *testing.T) {
	const n = 320
	for _, v := range []int{0, 1, 63, 64, 100, 127, 128, 191, 255, 256, 319} {
		for _, other := range []int{v % 64, v%64 + 64, v%64 + 128, v%64 + 192, v%64 + 256} {
			if v == other {
				continue
			}
			both := with(row(v), other)
			wantLive(t, "one set, both asked", truths(n, block(jump(1), constant(v)), block(back(v), show(other))), rows(row(other), both), rows(both, nil))
			wantLive(t, "one set, the other asked", truths(n, block(back(other), constant(v))), rows(row(other)), rows(nil))
			wantLive(t, "one by a phi of the other", truths(n, block(jump(1)), block(back(v), phi(v, other))), rows(row(other), nil), rows(row(other), nil))
		}
	}
}
