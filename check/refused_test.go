package check_test

import (
	"strconv"
	"testing"

	"smithy/api"
	"smithy/check"
	"smithy/syntax"
)

var shapeless = api.Fault{Err: api.ErrShape}

// everything is a source without a fault, with nodes of all kinds, and calls, blocks and parameters with none, one and more in them.
const everything = `func f(a i64, b u8) i64 {
	var c i32 = 5i32; var d[7] f64; c = -c + i32(b) * 2i32; d[a] = 0.5; g(); h(0.5);
	while u8(a) != 255u8 {
		if a < 1 && true { break; } else if !g() || a == 1 { continue; } else { print d[1]; }
	}
	return (a - 2) - f(a, b);
}
func g() bool { return false; }
func h(x f64) f64 { }
`

func TestEverything(t *testing.T) {
	wantNone(t, everything)
	kinds := map[api.NodeKind]bool{}
	for _, n := range taken(t, everything).Nodes {
		kinds[n.Kind] = true
	}
	if len(kinds) != int(api.NodeBlock) {
		t.Errorf("only %d kinds of nodes", len(kinds))
	}
}

func TestTreesThatAreNone(t *testing.T) {
	block := api.Node{Kind: api.NodeBlock}
	f := api.Func{Name: "f", Result: api.I64}
	for what, tree := range map[string]api.Tree{
		"a node without a function": {Nodes: []api.Node{block}},
		"a function without a node": {Funcs: []api.Func{f}},
		"a node of no kind":         {Nodes: []api.Node{{}}, Funcs: []api.Func{f}},
		"a body that is no block":   {Nodes: []api.Node{{Kind: api.NodeBreak}}, Funcs: []api.Func{f}},
		"a body that is no node":    {Nodes: []api.Node{block}, Funcs: []api.Func{{Name: "f", Result: api.I64, Body: 1}}},
		"a body below 0":            {Nodes: []api.Node{block}, Funcs: []api.Func{{Name: "f", Result: api.I64, Body: -1}}},
		"a function without a name": {Nodes: []api.Node{block}, Funcs: []api.Func{{Result: api.I64}}},
		"a function that is a word": {Nodes: []api.Node{block}, Funcs: []api.Func{{Name: "while", Result: api.I64}}},
		"a function of no type":     {Nodes: []api.Node{block}, Funcs: []api.Func{{Name: "f"}}},
		"a parameter of no type":    {Nodes: []api.Node{block}, Funcs: []api.Func{{Name: "f", Result: api.I64, Params: []api.Param{{Name: "a"}}}}},
		"two of one body":           {Nodes: []api.Node{block}, Funcs: []api.Func{f, f}},
		"a node that is its kid":    {Nodes: []api.Node{{Kind: api.NodeBlock, Kids: []int{0}}}, Funcs: []api.Func{f}},
		"a kid that is no node":     {Nodes: []api.Node{{Kind: api.NodeBlock, Kids: []int{7}}}, Funcs: []api.Func{f}},
		"a kid below 0":             {Nodes: []api.Node{{Kind: api.NodeBlock, Kids: []int{-1}}}, Funcs: []api.Func{f}},
	} {
		wantTreeFault(t, tree, shapeless, what)
	}
}

// Trees that are wrong in one field are refused, whatever other faults they have.
func TestOneFieldWrong(t *testing.T) {
	const faulty = "func f(a i64, a u8) i64 { break; print y; } func f() i64 {}"
	for _, src := range []string{everything, faulty} {
		right := taken(t, src)
		for i := range right.Nodes {
			for what, change := range map[string]func(*api.Node){
				"Kind 0":     func(n *api.Node) { n.Kind = 0 },
				"Kind 22":    func(n *api.Node) { n.Kind = 22 },
				"Name":       func(n *api.Node) { n.Name += " " },
				"Type 6":     func(n *api.Node) { n.Type = 6 },
				"Op 19":      func(n *api.Node) { n.Op = 19 },
				"Bits":       func(n *api.Node) { n.Bits |= 1 << 63 },
				"Size 257":   func(n *api.Node) { n.Size = 257 },
				"Size -1":    func(n *api.Node) { n.Size = -1 },
				"a kid more": func(n *api.Node) { n.Kids = append(n.Kids, 0) },
			} {
				tree := copied(right)
				change(&tree.Nodes[i])
				wantTreeFault(t, tree, shapeless, "node "+strconv.Itoa(i)+": "+what)
			}
		}
		for i := range right.Funcs {
			for what, change := range map[string]func(*api.Func){
				"Name":   func(f *api.Func) { f.Name = "1" },
				"Result": func(f *api.Func) { f.Result = api.NoType },
				"Body":   func(f *api.Func) { f.Body-- },
				"Params": func(f *api.Func) { f.Params = append(f.Params, api.Param{Name: "if", Type: api.U8}) },
			} {
				tree := copied(right)
				change(&tree.Funcs[i])
				wantTreeFault(t, tree, shapeless, "function "+strconv.Itoa(i)+": "+what)
			}
		}
	}
}

// Any tree is either refused for its shape or right: no call panics.
func TestWildTrees(t *testing.T) {
	o := firstOdd
	right := taken(t, everything)
	for range 20000 {
		tree := copied(right)
		for range 1 + o.below(3) {
			n := &tree.Nodes[o.below(len(tree.Nodes))]
			switch o.below(6) {
			case 0:
				n.Kind = api.NodeKind(o.below(24))
			case 1:
				n.Name = pick(&o, "", "a", "f", "while")
			case 2:
				n.Type = api.Type(o.below(7))
			case 3:
				n.Op = api.Op(o.below(20))
			case 4:
				n.Kids = append(n.Kids, o.below(len(tree.Nodes)+2)-1)
			case 5:
				n.Kids = n.Kids[:o.below(len(n.Kids)+1)]
			}
		}
		_, f := check.Check(tree)
		if syntax.Right(tree) == (f == shapeless) || f != reference(tree) {
			t.Fatalf("%v: Check tells %v; want %v", tree, f, reference(tree))
		}
	}
}
