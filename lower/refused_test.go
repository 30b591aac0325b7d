package lower_test

import (
	"testing"

	"smithy/api"
	"smithy/lower"
)

// wantRefused asks for an error, and nothing beside it.
func wantRefused(t *testing.T, tree api.Tree, what string) {
	t.Helper()
	if p, err := lower.Lower(tree); err != api.ErrShape || len(p) > 0 {
		t.Errorf("%s: %d graphs, %d; want none, %d", what, len(p), err, api.ErrShape)
	}
}

// A tree with any fault has no graphs, wherever the fault is and whatever it is.
func TestTreesWithFaults(t *testing.T) {
	for _, src := range []string{
		"func f() i64 { return x; }", "func f() i64 { x = 1; }", "func f() i64 { return g(); }", "func f() i64 {} func f() i64 {}", "func f() i64 {} func g(a i64, a i64) i64 {}", "func f() i64 { var a u8 = 1u8; var a u8 = 1u8; }",
		"func f() i64 { return true; }", "func f(a u8) i64 { return a; }", "func f() i64 { return 1 + 1u8; }", "func f() i64 { return 1.5 % 2.5; }", "func f() i64 { print bool(1); }", "func f() i64 { if 1 {} }", "func f() i64 { print true && 1; }", "func f() i64 { var a[2] u8; print a; }", "func f() i64 { var a[2] u8; print a[0u8]; }", "func f(a u8) i64 { f(1); }", "func f(a u8) i64 { f(); }",
		"func f() i64 { break; }", "func f() i64 { while true {} continue; }",
		"func f() i64 { return 1; } func g() i64 { return 1u8; }", "func f() i64 { return 1; x = 2; }", "func f() i64 { if false { print y; } }",
		"func f() i64 { var a[256] u8; var b[256] u8; var c[256] u8; var d[256] u8; var e u8 = 1u8; }", "func f(a u8, b u8, c u8, d u8, e u8, g u8, h u8, i u8, j u8) u8 {}",
		functions(api.MaxFuncs + 1), "func f() i64 {" + manyVars(api.MaxLocals+1) + " }",
	} {
		wantRefused(t, taken(t, src), short(src))
	}
}

func TestTreesThatAreNotRight(t *testing.T) {
	block := api.Node{Kind: api.NodeBlock}
	f := []api.Func{{Name: "f", Result: api.I64}}
	for what, tree := range map[string]api.Tree{
		"a node without a function":  {Nodes: []api.Node{block}},
		"a function without a node":  {Funcs: f},
		"a node of no kind":          {Nodes: []api.Node{{}}, Funcs: f},
		"a body that is no node":     {Nodes: []api.Node{block}, Funcs: []api.Func{{Name: "f", Result: api.I64, Body: 1}}},
		"a body below 0":             {Nodes: []api.Node{block}, Funcs: []api.Func{{Name: "f", Result: api.I64, Body: -1}}},
		"a body that is none":        {Nodes: []api.Node{{Kind: api.NodeLit, Type: api.I64}}, Funcs: f},
		"a kid that is no node":      {Nodes: []api.Node{{Kind: api.NodeBlock, Kids: []int{7}}}, Funcs: f},
		"a node that is its kid":     {Nodes: []api.Node{{Kind: api.NodeBlock, Kids: []int{0}}}, Funcs: f},
		"a function without a type":  {Nodes: []api.Node{block}, Funcs: []api.Func{{Name: "f"}}},
		"a function without a name":  {Nodes: []api.Node{block}, Funcs: []api.Func{{Result: api.I64}}},
		"a block for two functions":  {Nodes: []api.Node{block}, Funcs: []api.Func{{Name: "f", Result: api.I64}, {Name: "g", Result: api.I64}}},
		"a return without a worth":   {Nodes: []api.Node{{Kind: api.NodeReturn}, {Kind: api.NodeBlock, Kids: []int{0}}}, Funcs: []api.Func{{Name: "f", Result: api.I64, Body: 1}}},
		"an array of no elements":    {Nodes: []api.Node{{Kind: api.NodeArray, Name: "a", Type: api.U8}, {Kind: api.NodeBlock, Kids: []int{0}}}, Funcs: []api.Func{{Name: "f", Result: api.I64, Body: 1}}},
		"an array that is too great": {Nodes: []api.Node{{Kind: api.NodeArray, Name: "a", Type: api.U8, Size: 257}, {Kind: api.NodeBlock, Kids: []int{0}}}, Funcs: []api.Func{{Name: "f", Result: api.I64, Body: 1}}},
	} {
		wantRefused(t, tree, what)
	}
}

// One thing of a right tree that is turned is refused, or lowered as what it is then.
func TestTreesTurned(t *testing.T) {
	m := maker{odds: firstOdd}
	refused := 0
	for range 1500 {
		c := m.next(t)
		tree := copied(c.tree)
		n := &tree.Nodes[m.below(len(tree.Nodes))]
		switch m.below(7) {
		case 0:
			n.Kind = api.NodeKind(m.below(23))
		case 1:
			n.Type = api.Type(m.below(7))
		case 2:
			n.Op = api.Op(m.below(20))
		case 3:
			n.Bits = pick(&m.odds, 0, 1, 256, minus(1), 1<<63)
		case 4:
			n.Size = pick(&m.odds, -1, 0, 1, 256, 257)
		case 5:
			n.Name = pick(&m.odds, "", "a", "f0", "while", "zz")
		default:
			n.Kids = pick(&m.odds, nil, []int{0}, []int{-1, 1}, append(n.Kids, 0))
		}
		p, err := lower.Lower(tree)
		if _, fault := checked(tree); fault {
			refused++
			if err != api.ErrShape || len(p) > 0 {
				t.Fatalf("%s: turned, %d graphs, %d; want none, %d", c.src, len(p), err, api.ErrShape)
			}
			continue
		}
		lowered(t, tree, c.src)
	}
	if refused < 500 || refused > 1490 {
		t.Errorf("%d were refused", refused)
	}
}

// A tree of no functions has a program of no graphs.
func TestNoFunctions(t *testing.T) {
	for _, tree := range []api.Tree{{}, {Nodes: []api.Node{}, Funcs: []api.Func{}}, taken(t, ""), taken(t, " // nothing")} {
		if p, err := lower.Lower(tree); err != api.OK || len(p) > 0 {
			t.Errorf("%v: %v, %d; want none", tree, p, err)
		}
	}
}
