package spell_test

import (
	"math"
	"slices"
	"strconv"
	"testing"

	"smithy/api"
	"smithy/spell"
)

// wantSame asks what Same tells of two trees, in either order.
func wantSame(t *testing.T, a, b api.Tree, want bool, what string) {
	t.Helper()
	if spell.Same(a, b) != want || spell.Same(b, a) != want {
		t.Errorf("%s: Same is not %t", what, want)
	}
	if alike(a, b) != want {
		t.Errorf("%s: a wrong test", what)
	}
}

// parts asks that a tree with something turned is not the same as it was.
func parts(t *testing.T, tree api.Tree, what string, turn func(*api.Tree)) {
	t.Helper()
	other := copied(tree)
	turn(&other)
	wantSame(t, tree, other, false, what)
	wantSame(t, other, copied(other), true, what)
}

func TestSameOfSources(t *testing.T) {
	first := taken(t, "func f(a i64) i64 { return a + 1; }")
	wantSame(t, first, first, true, "itself")
	for _, src := range []string{"func f(a i64)i64{return a+1;}", "func  f(a i64) i64 {\n return (a) + 1; }", "// f\nfunc f(a i64) i64 { return ((a + (1))); } // end", "func f(a i64) i64 { return a + 01i64; }"} {
		wantSame(t, first, taken(t, src), true, src)
	}
	for _, src := range []string{
		"", "func f(a i64) i64 { return a - 1; }", "func f(a i32) i64 { return a + 1; }", "func f(b i64) i64 { return a + 1; }", "func g(a i64) i64 { return a + 1; }",
		"func f(a i64) i32 { return a + 1; }", "func f() i64 { return a + 1; }", "func f(a i64, b i64) i64 { return a + 1; }", "func f(a i64) i64 { return a + 2; }",
		"func f(a i64) i64 { return a + 1i32; }", "func f(a i64) i64 { return 1 + a; }", "func f(a i64) i64 { return b + 1; }", "func f(a i64) i64 { print a + 1; }",
		"func f(a i64) i64 { return a + 1; break; }", "func f(a i64) i64 { return a + 1; } func f(a i64) i64 { return a + 1; }", "func f(a i64) i64 { return a + -1; }",
	} {
		wantSame(t, first, taken(t, src), false, src)
	}
	wantSame(t, taken(t, "func f() i64 { if a { } else if b { } }"), taken(t, "func f() i64 { if a { } else { if b { } } }"), true, "an if behind else")
	wantSame(t, taken(t, "func f() i64 { x = a - b - c; }"), taken(t, "func f() i64 { x = (a - b) - c; }"), true, "parentheses that mean nothing")
	wantSame(t, taken(t, "func f() i64 { x = a - b - c; }"), taken(t, "func f() i64 { x = a - (b - c); }"), false, "parentheses that mean something")
	wantSame(t, taken(t, "func f() i64 { x = 1.0e2; }"), taken(t, "func f() i64 { x = 100.0; }"), true, "one float")
	wantSame(t, taken(t, "func f() i64 { } func g() i64 { }"), taken(t, "func g() i64 { } func f() i64 { }"), false, "functions in another order")
}

// Places alone never part two trees: one by one, and all of them.
func TestSameButForPlaces(t *testing.T) {
	tree := taken(t, everything)
	for _, at := range []int{0, -1, 1, math.MaxInt, math.MinInt} {
		for i := range tree.Nodes {
			other := copied(tree)
			other.Nodes[i].At = at
			wantSame(t, tree, other, true, "a node's place")
		}
		for i := range tree.Funcs {
			other := copied(tree)
			other.Funcs[i].At = at
			wantSame(t, tree, other, true, "a function's place")
			for j := range tree.Funcs[i].Params {
				other.Funcs[i].Params[j].At = at
				wantSame(t, tree, other, true, "a parameter's place")
			}
		}
		wantSame(t, tree, placed(tree, func() int { return at }), true, "all places")
	}
}

// Trees that part in one field, one kid or one number, right or not.
func TestNodesThatPart(t *testing.T) {
	tree := taken(t, everything)
	for i, n := range tree.Nodes {
		at := "node " + strconv.Itoa(i) + ": "
		for _, k := range []api.NodeKind{0, 1, 9, 21, 22, 255} {
			if k != n.Kind {
				parts(t, tree, at+"kind", func(u *api.Tree) { u.Nodes[i].Kind = k })
			}
		}
		for _, s := range []string{n.Name + "a", "A" + n.Name, n.Name + "\x00", n.Name + " "} {
			parts(t, tree, at+"name", func(u *api.Tree) { u.Nodes[i].Name = s })
		}
		for bit := range 8 {
			parts(t, tree, at+"type", func(u *api.Tree) { u.Nodes[i].Type ^= 1 << bit })
			parts(t, tree, at+"op", func(u *api.Tree) { u.Nodes[i].Op ^= 1 << bit })
		}
		for bit := range 64 {
			parts(t, tree, at+"bits", func(u *api.Tree) { u.Nodes[i].Bits ^= 1 << bit })
			parts(t, tree, at+"size", func(u *api.Tree) { u.Nodes[i].Size ^= 1 << bit })
		}
		parts(t, tree, at+"a kid more", func(u *api.Tree) { u.Nodes[i].Kids = append(u.Nodes[i].Kids, 0) })
		parts(t, tree, at+"a kid more ahead", func(u *api.Tree) { u.Nodes[i].Kids = append([]int{0}, u.Nodes[i].Kids...) })
		for j := range n.Kids {
			parts(t, tree, at+"a kid less", func(u *api.Tree) { u.Nodes[i].Kids = slices.Delete(u.Nodes[i].Kids, j, j+1) })
			for _, other := range []int{-1, n.Kids[j] + 1, n.Kids[j] - 1, math.MaxInt, math.MinInt} {
				parts(t, tree, at+"another kid", func(u *api.Tree) { u.Nodes[i].Kids[j] = other })
			}
			if j > 0 {
				parts(t, tree, at+"kids that change places", func(u *api.Tree) { k := u.Nodes[i].Kids; k[j-1], k[j] = k[j], k[j-1] })
			}
		}
		parts(t, tree, at+"gone", func(u *api.Tree) { u.Nodes = slices.Delete(u.Nodes, i, i+1) })
		parts(t, tree, at+"twice", func(u *api.Tree) { u.Nodes = slices.Insert(u.Nodes, i, u.Nodes[i]) })
	}
	parts(t, tree, "a node more", func(u *api.Tree) { u.Nodes = append(u.Nodes, api.Node{}) })
	parts(t, tree, "no nodes", func(u *api.Tree) { u.Nodes = nil })
}

func TestFunctionsThatPart(t *testing.T) {
	tree := taken(t, everything)
	for i, f := range tree.Funcs {
		at := "function " + strconv.Itoa(i) + ": "
		parts(t, tree, at+"name", func(u *api.Tree) { u.Funcs[i].Name += "a" })
		parts(t, tree, at+"no name", func(u *api.Tree) { u.Funcs[i].Name = "" })
		for bit := range 8 {
			parts(t, tree, at+"result", func(u *api.Tree) { u.Funcs[i].Result ^= 1 << bit })
		}
		for bit := range 64 {
			parts(t, tree, at+"body", func(u *api.Tree) { u.Funcs[i].Body ^= 1 << bit })
		}
		parts(t, tree, at+"a parameter more", func(u *api.Tree) { u.Funcs[i].Params = append(u.Funcs[i].Params, api.Param{}) })
		for j := range f.Params {
			parts(t, tree, at+"a parameter's name", func(u *api.Tree) { u.Funcs[i].Params[j].Name += "a" })
			for bit := range 8 {
				parts(t, tree, at+"a parameter's type", func(u *api.Tree) { u.Funcs[i].Params[j].Type ^= 1 << bit })
			}
			parts(t, tree, at+"a parameter less", func(u *api.Tree) { u.Funcs[i].Params = slices.Delete(u.Funcs[i].Params, j, j+1) })
		}
		parts(t, tree, at+"gone", func(u *api.Tree) { u.Funcs = slices.Delete(u.Funcs, i, i+1) })
		parts(t, tree, at+"twice", func(u *api.Tree) { u.Funcs = slices.Insert(u.Funcs, i, f) })
	}
	parts(t, tree, "parameters that change places", func(u *api.Tree) { p := u.Funcs[0].Params; p[0], p[1] = p[1], p[0] })
	parts(t, tree, "functions that change places", func(u *api.Tree) { u.Funcs[0], u.Funcs[1] = u.Funcs[1], u.Funcs[0] })
	parts(t, tree, "no functions", func(u *api.Tree) { u.Funcs = nil })
}

// Trees that no source has are the same as well, or not; an empty list and none are.
func TestSameOfAnyTrees(t *testing.T) {
	wantSame(t, api.Tree{}, api.Tree{}, true, "none")
	wantSame(t, api.Tree{}, api.Tree{Nodes: []api.Node{}, Funcs: []api.Func{}}, true, "empty lists")
	wantSame(t, api.Tree{Nodes: []api.Node{{}}}, api.Tree{}, false, "a node of no kind")
	wantSame(t, api.Tree{Funcs: []api.Func{{}}}, api.Tree{}, false, "a function without anything")
	odd := func(kids []int, params []api.Param) api.Tree {
		return api.Tree{Nodes: []api.Node{{Kind: 99, Name: "no name", Type: 77, Op: 88, Bits: 66, Size: -5, Kids: kids}}, Funcs: []api.Func{{Body: -1, Result: 44, Params: params}}}
	}
	wantSame(t, odd(nil, nil), odd([]int{}, []api.Param{}), true, "empty lists")
	wantSame(t, odd([]int{-1, 5}, []api.Param{{Name: "9", Type: 9}}), odd([]int{-1, 5}, []api.Param{{Name: "9", Type: 9, At: 3}}), true, "odd ones")
	wantSame(t, odd([]int{-1, 5}, nil), odd([]int{-1, 6}, nil), false, "odd ones")
	wantSame(t, odd(nil, []api.Param{{Name: "9"}}), odd(nil, []api.Param{{Name: "8"}}), false, "odd ones")
	// Equal floats may be words that part.
	wantSame(t, lit(api.F64, 0), lit(api.F64, 1<<63), false, "noughts of either sign")
	wantSame(t, lit(api.F64, 0x7ff8000000000000), lit(api.F64, 0x7ff8000000000000), true, "one NaN")
	// A kid that is its own node's leads nowhere without end.
	loop := api.Tree{Nodes: []api.Node{{Kind: api.NodeBlock, Kids: []int{0}}}, Funcs: []api.Func{{Body: 0}}}
	wantSame(t, loop, copied(loop), true, "a node in itself")
}

func TestMadeTreesArePartByPart(t *testing.T) {
	m := maker{odds: firstOdd + 2}
	var trees []api.Tree
	for range 120 {
		tree, _ := m.tree()
		trees = append(trees, tree)
	}
	for _, a := range trees {
		for _, b := range trees {
			if spell.Same(a, b) != alike(a, b) {
				t.Fatal("Same is not as told part by part")
			}
		}
	}
}
