package check_test

import (
	"strconv"
	"testing"

	"smithy/api"
	"smithy/check"
)

// placed is a tree of its own with all places told by at.
func placed(t api.Tree, at func() int) api.Tree {
	t = copied(t)
	for i := range t.Nodes {
		t.Nodes[i].At = at()
	}
	for i := range t.Funcs {
		t.Funcs[i].At = at()
		for j := range t.Funcs[i].Params {
			t.Funcs[i].Params[j].At = at()
		}
	}
	return t
}

func nowhere() int { return 0 }

// falling tells places below 0, each one less than the one before.
func falling() func() int {
	next := 0
	return func() int { next--; return next }
}

// spoilt is a tree with a fault.
func (m *maker) spoilt() api.Tree {
	for {
		tree, _ := m.make()
		for range 3 {
			m.spoil(&tree)
		}
		if reference(tree).Err != api.OK {
			return tree
		}
	}
}

// Places play no part but in faults: these are the same ones, at the place of the same thing.
func TestPlacesPlayNoPart(t *testing.T) {
	m := maker{odds: firstOdd}
	for range 500 {
		tree, info := m.make()
		wantInfo(t, placed(tree, nowhere), info, "with no places")
		wantInfo(t, placed(tree, falling()), info, "with falling places")
		tree = m.spoilt()
		fault := reference(tree)
		wantTreeFault(t, placed(tree, nowhere), api.Fault{Err: fault.Err}, "with no places")
		other := placed(tree, falling())
		wantTreeFault(t, other, reference(other), "with falling places")
		if t.Failed() {
			return
		}
	}
}

// more is a tree with one function more: return y; (which is a fault) or nothing.
func more(t api.Tree, name string, faulty bool) api.Tree {
	t = copied(t)
	body := api.Node{Kind: api.NodeBlock}
	if last := len(t.Nodes); faulty {
		t.Nodes = append(t.Nodes, api.Node{Kind: api.NodeName, Name: "y", At: -1}, api.Node{Kind: api.NodeReturn, At: -2, Kids: []int{last}})
		body.Kids = []int{last + 1}
	}
	t.Nodes = append(t.Nodes, body)
	t.Funcs = append(t.Funcs, api.Func{Name: name, Result: api.U8, Body: len(t.Nodes) - 1})
	return t
}

// One function more behind the others, of a name that is not there yet, changes no fault that there is, and nothing that is told of the others.
func TestOneFunctionMore(t *testing.T) {
	m := maker{odds: firstOdd}
	for range 500 {
		tree := m.spoilt()
		for _, faulty := range []bool{false, true} {
			wantTreeFault(t, more(tree, "later", faulty), reference(tree), "with one function more")
		}
		tree, info := m.make()
		wantTreeFault(t, more(tree, "later", true), api.Fault{Err: api.ErrName, At: -1}, "with one faulty function more")
		info.Types, info.Means, info.Locals = append(info.Types, api.NoType), append(info.Means, -1), append(info.Locals, nil)
		wantInfo(t, more(tree, "later", false), info, "with one function more")
		if t.Failed() {
			return
		}
	}
	for _, src := range []string{
		"func f() i64 {} func @f() i64 {}", "func f(a u8, @a u8) u8 {}", "func f() u8 { @break; }", "func f() u8 { @y = 1; }", "func f() u8 { @return 1; }", "func f() u8 { return @g(); }",
		"func f(a u8, b u8, c u8, d u8, e u8, f u8, g u8, h u8, @i u8) u8 {}",
	} {
		text, at := marked(t, src)
		tree := taken(t, text)
		_, f := check.Check(tree)
		if f.At != at {
			t.Errorf("%s: Check tells %v", src, f)
		}
		wantTreeFault(t, more(tree, "later", true), f, src)
	}
	// Its own names are its own: it may be called from ahead.
	wantNone(t, "func f() u8 { return later(); } func later() u8 {}")
}

// owners are the places of all nodes' owners; -1 of a body.
func owners(t api.Tree) []int {
	l := make([]int, len(t.Nodes))
	for i := range l {
		l[i] = -1
	}
	for i, n := range t.Nodes {
		for _, kid := range n.Kids {
			l[kid] = i
		}
	}
	return l
}

// functionOf is the place of the function in which a node stands.
func functionOf(t api.Tree, i int) int {
	for f := range t.Funcs {
		if i <= t.Funcs[f].Body {
			return f
		}
	}
	return -1
}

// aheadInBlock tells whether a local's declaration stands ahead of a node in a block about it.
func aheadInBlock(t api.Tree, info api.Info, over []int, i, local int) bool {
	for at := i; over[at] >= 0; at = over[at] {
		block := t.Nodes[over[at]]
		if block.Kind != api.NodeBlock {
			continue
		}
		for _, kid := range block.Kids {
			if kid == at {
				break
			}
			if n := t.Nodes[kid]; (n.Kind == api.NodeVar || n.Kind == api.NodeArray) && info.Means[kid] == local {
				return true
			}
		}
	}
	return false
}

// Of a tree without a fault each expression has a scalar's type, each name stands for a local that is declared ahead in a block about it, or a parameter.
func TestWhatFollows(t *testing.T) {
	m := maker{odds: firstOdd}
	for i := range 1000 {
		tree, _ := m.make()
		m.spoil(&tree)
		info, f := check.Check(tree)
		if f.Err == api.OK {
			wantSound(t, tree, info, "made tree "+strconv.Itoa(i))
		}
		if t.Failed() {
			return
		}
	}
	tree := taken(t, everything)
	info, _ := check.Check(tree)
	wantSound(t, tree, info, "everything")
}

func wantSound(t *testing.T, tree api.Tree, info api.Info, what string) {
	t.Helper()
	over := owners(tree)
	for i, n := range tree.Nodes {
		expression := n.Kind <= api.NodeEither
		if u := info.Types[i]; expression != (api.Bool <= u && u <= api.F64) || !expression && u != api.NoType {
			t.Errorf("%s: node %d of kind %d is of type %d", what, i, n.Kind, u)
		}
		f, means := functionOf(tree, i), info.Means[i]
		switch n.Kind {
		case api.NodeName, api.NodeItem, api.NodeSet, api.NodePut:
			local := info.Locals[f][means]
			if local.Name != n.Name || local.Size > 0 != (n.Kind == api.NodeItem || n.Kind == api.NodePut) {
				t.Errorf("%s: node %d, %s, stands for %v", what, i, n.Name, local)
			}
			if means >= len(tree.Funcs[f].Params) && !aheadInBlock(tree, info, over, i, means) {
				t.Errorf("%s: node %d, %s, is declared nowhere ahead of it", what, i, n.Name)
			}
		case api.NodeVar, api.NodeArray:
			if info.Locals[f][means] != (api.Local{Name: n.Name, Type: n.Type, Size: n.Size}) {
				t.Errorf("%s: node %d, %s, declares %v", what, i, n.Name, info.Locals[f][means])
			}
		case api.NodeCall:
			if tree.Funcs[means].Name != n.Name {
				t.Errorf("%s: node %d calls %s, not %s", what, i, tree.Funcs[means].Name, n.Name)
			}
		default:
			if means != -1 {
				t.Errorf("%s: node %d of kind %d stands for %d", what, i, n.Kind, means)
			}
		}
	}
}
