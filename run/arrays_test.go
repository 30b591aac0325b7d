package run_test

import (
	"math"
	"slices"
	"testing"

	"smithy/api"
)

// at loads the element that a number says into the variable 5, and shows it.
func at(array, index int) []api.Ins {
	return []api.Ins{constant(4, uint64(index)), load(5, array, 4), show(5)}
}

// putAt puts a number into the element that another one says.
func putAt(array, index, word int) []api.Ins {
	return []api.Ins{constant(4, uint64(index)), constant(5, uint64(word)), store(array, 4, 5)}
}

func row(parts ...[]api.Ins) []api.Ins {
	var l []api.Ins
	for _, x := range parts {
		l = append(l, x...)
	}
	return l
}

// beyond are indices that are none of so many elements: next to the ends, and as far as there are any.
func beyond(size int) []int {
	return []int{-1, -2, -size, -size - 1, size, size + 1, 2 * size, 256, 257, 1 << 31, 1 << 32, -1 << 31, -1 << 32, 1<<32 + 1, -1<<32 + 1, math.MaxInt, math.MinInt, math.MinInt + 1, math.MaxInt - 1}
}

func TestArraysBeginAs0(t *testing.T) {
	for _, i := range []int{0, 1, 2} {
		wantShows(t, "an element", nil, at(0, i), 0)
		wantShows(t, "another one was set", nil, row(putAt(0, (i+1)%3, 7), at(0, i)), 0)
	}
	wantShows(t, "the other array was set", nil, row(putAt(0, 2, 7), at(1, 2), putAt(1, 1, 8), at(0, 1)), 0, 0)
}

func TestElements(t *testing.T) {
	wantShows(t, "each by itself", nil, row(putAt(0, 0, 5), putAt(0, 1, 6), putAt(0, 2, 7), at(0, 0), at(0, 1), at(0, 2)), 5, 6, 7)
	wantShows(t, "set again", nil, row(putAt(0, 1, 5), at(0, 1), putAt(0, 1, 6), at(0, 1), putAt(0, 1, 0), at(0, 1)), 5, 6, 0)
	wantShows(t, "arrays are others", nil, row(putAt(0, 2, 5), putAt(1, 2, 6), at(0, 2), at(1, 2), putAt(0, 0, 7), at(1, 0), at(0, 0)), 5, 6, 0, 7)
	wantShows(t, "the greatest array's ends", nil, row(putAt(1, 255, 5), at(1, 255), putAt(1, 0, 6), at(1, 0), at(1, 254), at(1, 1)), 5, 6, 0, 0)
	// A variable that is set later leaves the element as it is.
	wantShows(t, "an element is no variable", words(7), []api.Ins{store(0, 1, 0), constant(0, 8), load(2, 0, 1), show(2), show(0)}, 7, 8)
}

// All of the greatest array, from one end to the other.
func TestAllElements(t *testing.T) {
	var ins []api.Ins
	var want []int
	for i := range api.MaxArray {
		ins = append(ins, putAt(1, i, 1000+i)...)
	}
	for i := range api.MaxArray {
		ins = append(ins, at(1, api.MaxArray-1-i)...)
		want = append(want, 1000+api.MaxArray-1-i)
	}
	wantShows(t, "all elements", nil, ins, want...)
}

// A load where there is no element is 0, and a store does nothing there; neither ends the run.
func TestNoElement(t *testing.T) {
	full := row(putAt(0, 0, 5), putAt(0, 1, 6), putAt(0, 2, 7))
	other := row(putAt(1, 0, 8), putAt(1, 255, 9))
	all := row(at(0, 0), at(0, 1), at(0, 2), at(1, 0), at(1, 255))
	for _, i := range beyond(3) {
		wantShows(t, "a load", nil, row(full, other, at(0, i)), 0)
		wantShows(t, "a load of what was never set", nil, at(0, i), 0)
		wantShows(t, "a store", nil, row(full, other, putAt(0, i, 99), all), 5, 6, 7, 8, 9)
		wantShows(t, "a store ahead of all others", nil, row(putAt(0, i, 99), all), 0, 0, 0, 0, 0)
		wantShows(t, "a store, and a load of it", nil, row(putAt(0, i, 99), at(0, i), full, putAt(0, i, 99), at(0, i)), 0, 0)
		if i < 0 || i >= 256 {
			wantShows(t, "the greatest array", nil, row(full, other, putAt(1, i, 99), at(1, i), all), 0, 5, 6, 7, 8, 9)
		}
	}
	// The variable that a load sets is 0 then, whatever it was.
	wantShows(t, "a variable becomes 0", words(7), []api.Ins{load(0, 0, 0), show(0)}, 0)
}

// Each size that there may be has just its elements.
func TestSizes(t *testing.T) {
	for _, size := range []int{1, 2, 3, 4, 7, 8, 9, 63, 64, 65, 127, 128, 129, 254, 255, 256} {
		g := numbers(0, block(back(0), row(putAt(0, size-1, 5), putAt(0, size, 6), putAt(0, -1, 7), at(0, size-1), at(0, size), at(0, -1), putAt(1, 0, 8), at(0, size), at(0, size-1))...))
		g.Arrays[0].Size = size
		wantRun(t, "a size", []api.Graph{g}, nil, 1, 1, told(0, 1, 1, whole(5, 0, 0, 0, 5)...))
	}
}

func TestArraysOfTypes(t *testing.T) {
	for _, u := range types {
		for _, w := range wordsOf(u) {
			g := api.Graph{Result: u, Vars: []api.Type{api.I64, u, u}, Arrays: []api.Array{{Type: api.F64, Size: 4}, {Type: u, Size: 2}}, Blocks: []api.Block{
				block(back(2), load(1, 1, 0), show(1), constant(1, w), store(1, 0, 1), load(2, 1, 0), show(2)),
			}}
			wantRun(t, "an element", []api.Graph{g}, nil, 1, 1, told(w, 1, 1, api.Show{Type: u}, api.Show{Type: u, Bits: w}))
		}
	}
}

func TestClears(t *testing.T) {
	full := row(putAt(0, 0, 5), putAt(0, 1, 6), putAt(0, 2, 7), putAt(1, 0, 8), putAt(1, 255, 9))
	all := row(at(0, 0), at(0, 1), at(0, 2), at(1, 0), at(1, 255))
	one, other := []api.Ins{wipe(0)}, []api.Ins{wipe(1)}
	wantShows(t, "the first array", nil, row(full, one, all), 0, 0, 0, 8, 9)
	wantShows(t, "the other array", nil, row(full, other, all), 5, 6, 7, 0, 0)
	wantShows(t, "both", nil, row(full, one, other, all), 0, 0, 0, 0, 0)
	wantShows(t, "what was never set", nil, row(one, other, all, full, all), 0, 0, 0, 0, 0, 5, 6, 7, 8, 9)
	wantShows(t, "and set again", nil, row(full, one, putAt(0, 1, 3), all, one, one, all), 0, 3, 0, 8, 9, 0, 0, 0, 8, 9)
	// Variables stay.
	wantShows(t, "variables", words(5, 6), []api.Ins{wipe(0), wipe(1), show(0), show(1)}, 5, 6)
}

// An array keeps its elements from block to block, and round a loop.
func TestArraysAndBlocks(t *testing.T) {
	// a[i] = i * i for i below 3; then the sum of all.
	g := numbers(0,
		block(jump(1), constant(1, 3), constant(2, 1)),
		block(branch(truth, 2, 3), op(api.OpLt, truth, 0, 1)),
		block(jump(1), op(api.OpMul, 3, 0, 0), store(0, 0, 3), op(api.OpAdd, 0, 0, 2)),
		block(back(4), constant(0, 0), load(4, 0, 0), constant(0, 1), load(5, 0, 0), op(api.OpAdd, 4, 4, 5), constant(0, 2), load(5, 0, 0), op(api.OpAdd, 4, 4, 5)))
	wantRun(t, "squares", []api.Graph{g}, nil, many, 1, told(5, 1+2*3+2, 1))
}

// Each call has its own arrays, 0 as it begins, whatever other calls of the same graph have put.
func TestArraysOfCalls(t *testing.T) {
	// Shows a[1], puts its parameter there, calls itself with one less, shows a[1] again.
	g := numbers(1,
		block(branch(truth, 1, 2), constant(1, 1), load(2, 0, 1), show(2), store(0, 1, 0), op(api.OpLe, truth, 0, 1)),
		block(jump(3)),
		block(jump(3), op(api.OpSub, 3, 0, 1), call(0, 3, 3)),
		block(back(0), load(2, 0, 1), show(2)))
	wantRun(t, "within one another", []api.Graph{g}, words(4), many, many, told(4, 12, 4, whole(0, 0, 0, 0, 1, 2, 3, 4)...))
	// One behind the other: what an ended call left is gone.
	leaves := numbers(1, block(back(2), row(at(0, 1), at(1, 200), []api.Ins{constant(1, 1), store(0, 1, 0), store(1, 0, 0), constant(1, 200), store(1, 1, 0)}, at(0, 1), at(1, 200))...))
	p := []api.Graph{numbers(1, block(back(0), row(putAt(0, 1, 70), putAt(1, 200, 71), []api.Ins{call(1, 1, 0), call(1, 1, 0), call(1, 1, 0)}, at(0, 1), at(1, 200))...)), leaves}
	wantRun(t, "behind one another", p, words(9), many, many, told(9, 4, 2, whole(0, 0, 9, 9, 0, 0, 9, 9, 0, 0, 9, 9, 70, 71)...))
	// A call that clears or puts does so to its own.
	p = []api.Graph{numbers(1, block(back(0), row(putAt(0, 1, 70), []api.Ins{call(1, 1)}, at(0, 1))...)), numbers(0, block(back(0), row([]api.Ins{wipe(0)}, putAt(0, 2, 5), []api.Ins{wipe(0), wipe(1)})...))}
	wantRun(t, "a clear in a call", p, words(9), many, many, told(9, 2, 2, whole(70)...))
}

// Calls one behind the other put other elements each: all that they have not put is 0, though an ended call had put it, into this array or another one.
func TestArraysOfCallsInTurn(t *testing.T) {
	all := func(array int) []api.Ins { return row(at(array, 0), at(array, 1), at(array, 2)) }
	puts := numbers(2, block(back(3), row([]api.Ins{store(0, 0, 1)}, all(0), all(1), []api.Ins{store(1, 0, 1)}, all(1), all(0))...))
	others := numbers(2, block(back(3), row([]api.Ins{store(1, 0, 1)}, all(1), all(0), []api.Ins{wipe(1)}, all(1))...))
	p := []api.Graph{numbers(3, block(back(0), constant(6, 1), constant(7, 2),
		call(1, 5, 8, 0), call(1, 5, 6, 1), call(1, 5, 7, 2), call(2, 5, 6, 0), call(2, 5, 8, 1), call(1, 5, 7, 0))), puts, others}
	none := []int{0, 0, 0}
	var want []int
	for _, c := range []struct {
		others      bool
		index, word int
	}{{false, 0, 5}, {false, 1, 6}, {false, 2, 7}, {true, 1, 5}, {true, 0, 6}, {false, 2, 5}} {
		set := slices.Clone(none)
		set[c.index] = c.word
		if c.others {
			want = slices.Concat(want, set, none, none)
		} else {
			want = slices.Concat(want, set, none, set, set)
		}
	}
	wantRun(t, "in turn", p, words(5, 6, 7), many, many, told(5, 7, 2, whole(want...)...))
}
