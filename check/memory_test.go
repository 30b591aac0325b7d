package check_test

import (
	"reflect"
	"sync"
	"testing"
	"unsafe"

	"smithy/api"
	"smithy/check"
)

// roomy is a tree whose lists have spare room, filled with what would be told of.
func roomy(t api.Tree) api.Tree {
	t = copied(t)
	for i, n := range t.Nodes {
		t.Nodes[i].Kids = append(n.Kids, 77, 78)[:len(n.Kids)]
	}
	for i, f := range t.Funcs {
		t.Funcs[i].Params = append(f.Params, api.Param{Name: "spare"})[:len(f.Params)]
	}
	t.Nodes = append(t.Nodes, api.Node{Name: "spare"})[:len(t.Nodes)]
	t.Funcs = append(t.Funcs, api.Func{Name: "spare"})[:len(t.Funcs)]
	return t
}

// whole is a tree with its lists up to one behind their ends.
func whole(t api.Tree) api.Tree {
	t.Nodes, t.Funcs = t.Nodes[:len(t.Nodes)+1], t.Funcs[:len(t.Funcs)+1]
	t = copied(t)
	for i := range t.Nodes[:len(t.Nodes)-1] {
		t.Nodes[i].Kids = t.Nodes[i].Kids[:len(t.Nodes[i].Kids):len(t.Nodes[i].Kids)]
	}
	return t
}

func TestNothingHandedInIsChanged(t *testing.T) {
	for _, src := range []string{everything, "func f(a i64) i64 { var b i64 = a; print y; }", "func f() i64 {} func f() i64 {}"} {
		tree := roomy(taken(t, src))
		was := whole(tree)
		check.Check(tree)
		if !reflect.DeepEqual(whole(tree), was) {
			t.Errorf("%s: the tree has changed", short(src))
		}
		for _, n := range tree.Nodes {
			if spare := n.Kids[:len(n.Kids)+2]; spare[len(n.Kids)] != 77 || spare[len(n.Kids)+1] != 78 {
				t.Errorf("%s: the spare room of kids has changed", short(src))
			}
		}
		for _, f := range tree.Funcs {
			if spare := f.Params[:len(f.Params)+1]; spare[len(f.Params)].Name != "spare" {
				t.Errorf("%s: the spare room of parameters has changed", short(src))
			}
		}
	}
}

// What is handed out is new: who changes it, its spare room too, changes no other answer, no other list, and no tree.
func TestWhatIsHandedOutIsNew(t *testing.T) {
	const src = "func f(a i64, b u8) i64 { var c[3] f64; return a; } func g(a i64) i64 { var b i64 = 1; return a; } func h() u8 {}"
	tree := taken(t, src)
	was := copied(tree)
	want, _ := check.Check(tree)
	first, _ := check.Check(tree)
	for i := range first.Types {
		first.Types[i], first.Means[i] = 77, 77
	}
	_ = append(first.Types, 78)
	_ = append(first.Means, 78)
	for i, l := range first.Locals {
		l = l[:cap(l)]
		for j := range l {
			l[j] = api.Local{Name: "changed", Size: i}
		}
	}
	for i, l := range first.Locals {
		for _, x := range l {
			if x.Size != i {
				t.Errorf("the locals of %d share memory with those of %d", i, x.Size)
			}
		}
	}
	if !reflect.DeepEqual(tree, was) {
		t.Error("the tree has changed with what was told of it")
	}
	wantInfo(t, tree, want, src)
}

// Names that are told are copies: they keep no text of the tree's alive.
func TestNamesAreCopies(t *testing.T) {
	const src = "func f(first i64) i64 { var second[3] f64; var third u8 = 1u8; }"
	tree := taken(t, src)
	info, _ := check.Check(tree)
	texts := map[*byte]string{}
	for _, n := range tree.Nodes {
		texts[unsafe.StringData(n.Name)] = n.Name
	}
	for _, p := range tree.Funcs[0].Params {
		texts[unsafe.StringData(p.Name)] = p.Name
	}
	for _, l := range info.Locals[0] {
		if name := texts[unsafe.StringData(l.Name)]; name != "" {
			t.Errorf("the name %s is the tree's own text", name)
		}
	}
}

// An answer hangs on the tree alone: not on what was asked before, nor on what is asked beside it.
func TestSameAnswerEachTime(t *testing.T) {
	m := maker{odds: firstOdd}
	type asked struct {
		tree  api.Tree
		info  api.Info
		fault api.Fault
	}
	var all []asked
	for range 50 {
		tree, info := m.make()
		all = append(all, asked{tree: tree, info: info})
		tree = m.spoilt()
		all = append(all, asked{tree: tree, fault: reference(tree)})
	}
	var wait sync.WaitGroup
	for range 4 {
		wait.Go(func() {
			for _, a := range all {
				if info, f := check.Check(a.tree); f != a.fault || !equal(info, a.info) {
					t.Errorf("Check tells %v, %v; want %v, %v", info, f, a.info, a.fault)
				}
			}
		})
	}
	wait.Wait()
}
