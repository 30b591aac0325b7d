package dom_test

import (
	"reflect"
	"slices"
	"sync"
	"testing"

	"smithy/api"
	"smithy/dom"
)

// roomy is a list of lists of its own, all with spare room.
func roomy(l [][]int) [][]int {
	l = copied(l)
	for i := range l {
		l[i] = append(l[i], 77, -5)[:len(l[i])]
	}
	return append(l, to(99))[:len(l)]
}

// spread is a roomy list with its spare room, copied.
func spread(l [][]int) [][]int {
	n := len(l)
	l = slices.Clone(l[:n+1])
	for i := range l[:n] {
		l[i] = slices.Clone(l[i][:len(l[i])+2])
	}
	l[n] = slices.Clone(l[n])
	return l
}

func TestNothingHandedInIsChanged(t *testing.T) {
	o := firstOdd
	for range 2000 {
		next := roomy(o.anyNet(16))
		if o.often(20) {
			next[o.below(len(next))] = append(to(len(next)), 77, -5)[:1]
		}
		was := spread(next)
		tree, e := dom.Tree(next)
		if !reflect.DeepEqual(spread(next), was) {
			t.Fatalf("%v has become %v", was, spread(next))
		}
		// Spare room plays no part.
		if again, f := dom.Tree(copied(next)); e != f || !slices.Equal(tree, again) {
			t.Fatalf("%v is told otherwise without spare room", next)
		}
		list := append(slices.Clone(o.anyList(16)), 0, 1)
		all := slices.Clone(list)
		list = list[:len(list)-2]
		under := dom.Under(list)
		over := dom.Over(list, o.below(16), o.below(16))
		if !slices.Equal(list[:len(all)], all) {
			t.Fatalf("%v has become %v", all, list[:len(all)])
		}
		if !sameLists(under, dom.Under(slices.Clone(list))) || over && len(list) == 0 {
			t.Fatalf("%v is told otherwise without spare room", list)
		}
	}
}

// wantApart fills each list, its spare room too, with a number of its own, and asks that each still has its own behind that.
func wantApart(t *testing.T, what string, lists [][]int) {
	t.Helper()
	for i, l := range lists {
		for j := range l[:cap(l)] {
			l[:cap(l)][j] = -1000 - i
		}
	}
	for i, l := range lists {
		if slices.ContainsFunc(l[:cap(l)], func(n int) bool { return n != -1000-i }) {
			t.Fatalf("%s: two lists share memory", what)
		}
	}
}

// What is handed out is new: who changes it changes neither what was handed in, nor another answer, nor another list of this one.
func TestWhatIsHandedOutIsNew(t *testing.T) {
	o := firstOdd
	for range 2000 {
		next := roomy(o.anyNet(16))
		was := spread(next)
		one, e := dom.Tree(next)
		other, f := dom.Tree(next)
		if e != api.OK || f != api.OK || len(one) == 0 {
			t.Fatalf("Tree(%v) tells %v, %d", next, one, e)
		}
		list := slices.Clone(one)
		under := dom.Under(list)
		kept := copied(under)
		wantApart(t, "Tree and Under", append(dom.Under(list), dom.Under(list)...))
		wantApart(t, "Tree", [][]int{other})
		if !reflect.DeepEqual(spread(next), was) || !slices.Equal(one, list) || !sameLists(under, kept) {
			t.Fatalf("%v: other lists have changed", next)
		}
		wantApart(t, "all lists of one answer", append(under, one, list))
	}
}

// An answer hangs on what is handed in alone: not on what was asked before, nor on what is asked beside it.
func TestSameAnswerEachTime(t *testing.T) {
	o := firstOdd
	var nets, trees [][][]int
	for range 300 {
		next := o.anyNet(20)
		tree, _ := dom.Tree(next)
		nets, trees = append(nets, next), append(trees, append(dom.Under(tree), tree))
	}
	var wait sync.WaitGroup
	for range 4 {
		wait.Go(func() {
			for i, next := range nets {
				dom.Tree(net(to(5)))
				tree, e := dom.Tree(next)
				if e != api.OK || !sameLists(append(dom.Under(tree), tree), trees[i]) {
					t.Errorf("%v is told otherwise another time", next)
				}
			}
		})
	}
	wait.Wait()
}
