package front_test

import (
	"reflect"
	"slices"
	"sync"
	"testing"

	"smithy/api"
	"smithy/front"
)

// roomy is a list of lists of its own, all with spare room.
func roomy(l [][]int) [][]int {
	l = copied(l)
	for i := range l {
		l[i] = roomyRow(l[i])
	}
	return append(l, to(99))[:len(l)]
}

func roomyRow(l []int) []int { return append(slices.Clone(l), 77, -5)[:len(l)] }

// spread is a roomy list with its spare room, copied.
func spread(l [][]int) [][]int {
	n := len(l)
	l = slices.Clone(l[:n+1])
	for i := range l[:n] {
		l[i] = spreadRow(l[i])
	}
	l[n] = slices.Clone(l[n])
	return l
}

func spreadRow(l []int) []int { return slices.Clone(l[:len(l)+2]) }

func TestNothingHandedInIsChanged(t *testing.T) {
	o := firstOdd
	refused := 0
	for range 3000 {
		next := o.anyNet(16)
		from := o.anyFrom(len(next))
		if o.often(10) {
			next[o.below(len(next))] = to(len(next))
		}
		if o.often(10) {
			from = append(from, len(next))
		}
		next, from = roomy(next), roomyRow(from)
		was, wasFrom := spread(next), spreadRow(from)
		told, e := front.Fronts(next)
		joins, f := front.Joins(next, from)
		if !reflect.DeepEqual(spread(next), was) || !slices.Equal(spreadRow(from), wasFrom) {
			t.Fatalf("%v, %v have become %v, %v", was, wasFrom, spread(next), spreadRow(from))
		}
		if f != api.OK {
			refused++
		}
		// Spare room plays no part.
		if again, g := front.Fronts(copied(next)); e != g || !sameLists(told, again) {
			t.Fatalf("%v is told otherwise without spare room", next)
		}
		if again, g := front.Joins(copied(next), slices.Clone(from)); f != g || !slices.Equal(joins, again) {
			t.Fatalf("%v, %v are told otherwise without spare room", next, from)
		}
	}
	if refused < 200 {
		t.Errorf("%d were refused", refused)
	}
}

// wantApart fills each list, its spare room too, with a number of its own, and asks that each still has its own behind that.
func wantApart(t *testing.T, what string, lists [][]int) {
	t.Helper()
	for i, l := range lists {
		for j := range l[:cap(l)] {
			l[:cap(l)][j] = -1000 - i
		}
	}
	for i, l := range lists {
		if slices.ContainsFunc(l[:cap(l)], func(n int) bool { return n != -1000-i }) {
			t.Fatalf("%s: two lists share memory", what)
		}
	}
}

// What is handed out is new: who changes it changes neither what was handed in, nor another answer, nor another list of this one.
func TestWhatIsHandedOutIsNew(t *testing.T) {
	o := firstOdd
	for range 3000 {
		next := roomy(o.metNet(16))
		from := roomyRow(o.anyFrom(len(next)))
		was, wasFrom := spread(next), spreadRow(from)
		one, e := front.Fronts(next)
		other, f := front.Fronts(next)
		joins, g := front.Joins(next, from)
		again, h := front.Joins(next, from)
		if e != api.OK || f != api.OK || g != api.OK || h != api.OK || len(one) != len(next) {
			t.Fatalf("%v, %v are refused: %d, %d", next, from, e, g)
		}
		kept, keptJoins := copied(one), slices.Clone(joins)
		wantApart(t, "Fronts and Joins", append(slices.Clone(other), again))
		if !reflect.DeepEqual(spread(next), was) || !slices.Equal(spreadRow(from), wasFrom) || !sameLists(one, kept) || !slices.Equal(joins, keptJoins) {
			t.Fatalf("%v, %v: other lists have changed", next, from)
		}
		wantApart(t, "all lists", slices.Concat(one, [][]int{joins, from}, next))
	}
}

// The list of fronts itself is new, too, with its spare room.
func TestTheListOfFrontsIsNew(t *testing.T) {
	next := roomy(example())
	one, _ := front.Fronts(next)
	other, _ := front.Fronts(next)
	clear(other[:cap(other)])
	if !sameLists(one, net(nil, to(3), to(3), to(1), nil, nil)) || !sameLists(next, example()) {
		t.Errorf("other lists have changed: %v, %v", one, next)
	}
}

// An answer hangs on what is handed in alone: not on what was asked before, nor on what is asked beside it.
func TestSameAnswerEachTime(t *testing.T) {
	o := firstOdd
	var nets, rows, answers [][][]int
	for range 300 {
		next := o.metNet(20)
		from := o.anyFrom(len(next))
		told, _ := front.Fronts(next)
		joins, _ := front.Joins(next, from)
		nets, rows, answers = append(nets, next), append(rows, net(from)), append(answers, append(told, joins))
	}
	var wait sync.WaitGroup
	for range 4 {
		wait.Go(func() {
			for i, next := range nets {
				front.Fronts(net(to(5)))
				front.Joins(next, to(-1))
				told, e := front.Fronts(next)
				joins, f := front.Joins(next, rows[i][0])
				if e != api.OK || f != api.OK || !sameLists(append(told, joins), answers[i]) {
					t.Errorf("%v, %v are told otherwise another time", next, rows[i][0])
				}
			}
		})
	}
	wait.Wait()
}
