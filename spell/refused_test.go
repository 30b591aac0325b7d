package spell_test

import (
	"math"
	"slices"
	"testing"

	"smithy/api"
	"smithy/spell"
	"smithy/syntax"
)

func TestTreesThatAreNone(t *testing.T) {
	block := api.Node{Kind: api.NodeBlock}
	f := api.Func{Name: "f", Result: api.I64}
	for what, tree := range map[string]api.Tree{
		"a node that is no body":     {Nodes: []api.Node{block}},
		"a body that is not there":   {Funcs: []api.Func{f}},
		"a body below 0":             {Nodes: []api.Node{block}, Funcs: []api.Func{{Name: "f", Result: api.I64, Body: -1}}},
		"a body past the end":        {Nodes: []api.Node{block}, Funcs: []api.Func{{Name: "f", Result: api.I64, Body: 1}}},
		"one body for two":           {Nodes: []api.Node{block}, Funcs: []api.Func{f, f}},
		"no name":                    {Nodes: []api.Node{block}, Funcs: []api.Func{{Result: api.I64}}},
		"a word as a name":           {Nodes: []api.Node{block}, Funcs: []api.Func{{Name: "while", Result: api.I64}}},
		"a name with a blank":        {Nodes: []api.Node{block}, Funcs: []api.Func{{Name: "f f", Result: api.I64}}},
		"a name that is too long":    {Nodes: []api.Node{block}, Funcs: []api.Func{{Name: times("f", 33), Result: api.I64}}},
		"no result":                  {Nodes: []api.Node{block}, Funcs: []api.Func{{Name: "f"}}},
		"a result of no type":        {Nodes: []api.Node{block}, Funcs: []api.Func{{Name: "f", Result: 6}}},
		"a parameter without a type": {Nodes: []api.Node{block}, Funcs: []api.Func{{Name: "f", Result: api.I64, Params: []api.Param{{Name: "a"}}}}},
		"a parameter without a name": {Nodes: []api.Node{block}, Funcs: []api.Func{{Name: "f", Result: api.I64, Params: []api.Param{{Type: api.I64}}}}},
		"a body that is no block":    {Nodes: []api.Node{{Kind: api.NodeBreak}}, Funcs: []api.Func{f}},
		"a block in itself":          {Nodes: []api.Node{{Kind: api.NodeBlock, Kids: []int{0}}}, Funcs: []api.Func{f}},
		"a kid that is not there":    {Nodes: []api.Node{{Kind: api.NodeBlock, Kids: []int{7}}}, Funcs: []api.Func{f}},
		"a node of no kind":          {Nodes: []api.Node{{}}, Funcs: []api.Func{f}},
		"a kind past the last":       {Nodes: []api.Node{{Kind: 22}}, Funcs: []api.Func{f}},
		"an unary without operand":   nested(api.Node{Kind: api.NodeUnary, Op: api.OpNeg}),
		"a unary sign of two":        nested(name("a"), api.Node{Kind: api.NodeUnary, Op: api.OpSub, Kids: []int{0}}),
		"a sign of one for two":      nested(name("a"), name("b"), api.Node{Kind: api.NodeBinary, Op: api.OpNeg, Kids: []int{0, 1}}),
		"two kids in another order":  nested(name("a"), name("b"), api.Node{Kind: api.NodeBinary, Op: api.OpAdd, Kids: []int{1, 0}}),
		"an array without elements":  {Nodes: []api.Node{{Kind: api.NodeArray, Name: "a", Type: api.U8}, {Kind: api.NodeBlock, Kids: []int{0}}}, Funcs: []api.Func{{Name: "f", Result: api.I64, Body: 1}}},
		"an array of 257 elements":   {Nodes: []api.Node{{Kind: api.NodeArray, Name: "a", Type: api.U8, Size: 257}, {Kind: api.NodeBlock, Kids: []int{0}}}, Funcs: []api.Func{{Name: "f", Result: api.I64, Body: 1}}},
		"a call that is a statement": {Nodes: []api.Node{{Kind: api.NodeCall, Name: "f"}, {Kind: api.NodeBlock, Kids: []int{0}}}, Funcs: []api.Func{{Name: "f", Result: api.I64, Body: 1}}},
	} {
		wantRefused(t, tree, what)
	}
}

// turns are a tree with one thing turned, in many ways.
func turns(tree api.Tree, do func(api.Tree)) {
	try := func(turn func(*api.Tree)) {
		other := copied(tree)
		turn(&other)
		do(other)
	}
	for i, n := range tree.Nodes {
		for k := range api.NodeKind(24) {
			try(func(u *api.Tree) { u.Nodes[i].Kind = k })
		}
		for _, s := range []string{"", "a", "if", "9", "a b", times("a", 32), times("a", 33)} {
			try(func(u *api.Tree) { u.Nodes[i].Name = s })
		}
		for u := range api.Type(8) {
			try(func(v *api.Tree) { v.Nodes[i].Type = u })
		}
		for op := range api.Op(21) {
			try(func(u *api.Tree) { u.Nodes[i].Op = op })
		}
		for _, w := range []uint64{0, 1, 2, 255, 256, 1 << 31, 1<<63 - 1, 1 << 63, math.MaxUint64} {
			try(func(u *api.Tree) { u.Nodes[i].Bits = w })
		}
		for _, size := range []int{-1, 0, 1, 256, 257} {
			try(func(u *api.Tree) { u.Nodes[i].Size = size })
		}
		for _, kid := range []int{-1, 0, i - 1, i, math.MaxInt} {
			try(func(u *api.Tree) { u.Nodes[i].Kids = append(u.Nodes[i].Kids, kid) })
		}
		for j := range n.Kids {
			try(func(u *api.Tree) { u.Nodes[i].Kids = slices.Delete(u.Nodes[i].Kids, j, j+1) })
			for _, kid := range []int{-1, 0, n.Kids[j] - 1, n.Kids[j] + 1, math.MinInt} {
				try(func(u *api.Tree) { u.Nodes[i].Kids[j] = kid })
			}
		}
		try(func(u *api.Tree) { u.Nodes = slices.Delete(u.Nodes, i, i+1) })
	}
	for i := range tree.Funcs {
		for _, s := range []string{"", "a", "if", "9"} {
			try(func(u *api.Tree) { u.Funcs[i].Name = s })
		}
		for u := range api.Type(8) {
			try(func(v *api.Tree) { v.Funcs[i].Result = u })
		}
		for body := range len(tree.Nodes) + 2 {
			try(func(u *api.Tree) { u.Funcs[i].Body = body - 1 })
		}
		try(func(u *api.Tree) { u.Funcs = slices.Delete(u.Funcs, i, i+1) })
	}
}

// Just what is right is printed, and then read as it was; all else is refused.
func TestTurnedTrees(t *testing.T) {
	right, wrong := 0, 0
	turns(taken(t, everything), func(tree api.Tree) {
		if !syntax.Right(tree) {
			wrong++
			wantRefused(t, tree, "turned")
			return
		}
		right++
		text, err := spell.Print(tree)
		back, f := syntax.Parse(text)
		if err != api.OK || f != (api.Fault{}) || !alike(back, tree) {
			t.Errorf("%v, %v: %s is not read as it was", err, f, short(text))
		}
	})
	if right < 500 || wrong < 3000 {
		t.Errorf("%d right, %d wrong", right, wrong)
	}
}

// deep is an expression in so many things, one in another, and its text.
func deep(n int, more func(api.Node) api.Node, text func(string) string) (api.Tree, string) {
	nodes, s := []api.Node{name("a")}, "a"
	for i := range n {
		nodes, s = append(nodes, more(api.Node{Kids: []int{i}})), text(s)
	}
	return nested(nodes...), asPrinted(s)
}

// What is nested as deep as may be, the body's block counted, is printed and read; one more is refused.
func TestNestedExpressions(t *testing.T) {
	for _, x := range []struct {
		what string
		more func(api.Node) api.Node
		text func(string) string
	}{
		{"unary signs", func(n api.Node) api.Node { n.Kind, n.Op = api.NodeUnary, api.OpNeg; return n }, func(s string) string { return "-" + s }},
		{"casts", func(n api.Node) api.Node { n.Kind, n.Type = api.NodeCast, api.I32; return n }, func(s string) string { return "i32(" + s + ")" }},
		{"calls", func(n api.Node) api.Node { n.Kind, n.Name = api.NodeCall, "g"; return n }, func(s string) string { return "g(" + s + ")" }},
		{"indexes", func(n api.Node) api.Node { n.Kind, n.Name = api.NodeItem, "b"; return n }, func(s string) string { return "b[" + s + "]" }},
	} {
		for _, n := range []int{1, 2, 30, 31} {
			tree, text := deep(n, x.more, x.text)
			wantPrint(t, tree, text)
		}
		for _, n := range []int{32, 33, 1000} {
			tree, _ := deep(n, x.more, x.text)
			wantRefused(t, tree, x.what)
		}
	}
}

// rightDeep is a - (a - (a - ..)) with so many pairs.
func rightDeep(n int) (api.Tree, string) {
	var nodes []api.Node
	for range n + 2 {
		nodes = append(nodes, name("a"))
	}
	for i := range n + 1 {
		nodes = append(nodes, twoNode("-", n-i, len(nodes)-1))
	}
	return nested(nodes...), asPrinted(times("a - (", n) + "a - a" + times(")", n))
}

func TestNestedParentheses(t *testing.T) {
	for _, n := range []int{0, 1, 2, 30, 31} {
		tree, text := rightDeep(n)
		wantPrint(t, tree, text)
	}
	for _, n := range []int{32, 33, 500} {
		tree, _ := rightDeep(n)
		wantRefused(t, tree, "parentheses")
	}
}

// elses are so many ifs behind else, one in another, and their lines.
func elses(n int) (api.Tree, string) {
	nodes := []api.Node{}
	for range n + 1 {
		nodes = append(nodes, name("a"), api.Node{Kind: api.NodeBlock})
	}
	kids := []int{2 * n, 2*n + 1}
	for i := n - 1; i >= 0; i-- {
		nodes = append(nodes, api.Node{Kind: api.NodeIf, Kids: kids}, api.Node{Kind: api.NodeBlock, Kids: []int{len(nodes)}})
		kids = []int{2 * i, 2*i + 1, len(nodes) - 1}
	}
	nodes = append(nodes, api.Node{Kind: api.NodeIf, Kids: kids}, api.Node{Kind: api.NodeBlock, Kids: []int{len(nodes)}})
	text := "func f() u8 {\n\tif a {\n" + times("\t} else if a {\n", n) + "\t}\n}\n"
	return api.Tree{Nodes: nodes, Funcs: []api.Func{{Name: "f", Result: api.U8, Body: len(nodes) - 1}}}, text
}

func TestNestedElses(t *testing.T) {
	for _, n := range []int{0, 1, 2, 29, 30} {
		tree, text := elses(n)
		wantPrint(t, tree, text)
	}
	for _, n := range []int{31, 32, 100} {
		tree, _ := elses(n)
		wantRefused(t, tree, "ifs behind else")
	}
}

// loops are so many whiles, one in another, and their lines.
func loops(n int) (api.Tree, string) {
	var nodes []api.Node
	for range n {
		nodes = append(nodes, name("a"))
	}
	nodes = append(nodes, api.Node{Kind: api.NodeBlock})
	text := ""
	for i := range n {
		nodes = append(nodes, api.Node{Kind: api.NodeWhile, Kids: []int{n - 1 - i, len(nodes) - 1}}, api.Node{Kind: api.NodeBlock, Kids: []int{len(nodes)}})
		tabs := times("\t", n-i)
		text = tabs + "while a {\n" + text + tabs + "}\n"
	}
	return api.Tree{Nodes: nodes, Funcs: []api.Func{{Name: "f", Result: api.U8, Body: len(nodes) - 1}}}, "func f() u8 {\n" + text + "}\n"
}

func TestNestedBlocks(t *testing.T) {
	for _, n := range []int{0, 1, 2, 30, 31} {
		tree, text := loops(n)
		wantPrint(t, tree, text)
	}
	for _, n := range []int{32, 33, 100} {
		tree, _ := loops(n)
		wantRefused(t, tree, "blocks")
	}
}

// chain is a + a + a .. with so many signs, which needs no parentheses: it may be of any length.
func chain(n int, signs ...string) (api.Tree, string) {
	nodes := []api.Node{name("a")}
	text := []byte("a")
	for i := range n {
		sign := signs[i*len(signs)/n]
		nodes = append(nodes, name("a"), twoNode(sign, 2*i, 2*i+1))
		text = append(text, " "+sign+" a"...)
	}
	return nested(nodes...), asPrinted(string(text))
}

func TestLongChains(t *testing.T) {
	for _, n := range []int{1, 31, 32, 33, 1000, 10000} {
		tree, text := chain(n, "+")
		wantPrint(t, tree, text)
		tree, text = chain(n, "*", "-", "<", "&&", "||")
		wantPrint(t, tree, text)
	}
	// Longer than any source, and deeper than calls could go.
	tree, text := chain(1<<20, "*")
	wantPrint(t, tree, text)
	if !spell.Same(tree, copied(tree)) {
		t.Error("a long chain is not the same as itself")
	}
}

// A text may be longer than a source; up to that length it is read as it was.
func TestLength(t *testing.T) {
	for _, more := range []int{-1, 0, 1, 30000} {
		// Names of 32 bytes and one that fills it up.
		line := "\t" + times("n", 32) + " = " + times("n", 32) + ";\n"
		head, end := "func f() i64 {\n", "}\n"
		room := api.MaxSource + more - len(head) - len(end) - len("\tprint a;\n")
		text := head + times(line, room/len(line))
		text += "\tprint a" + times(" | a", room%len(line)/4) + ";\n" + end
		fill := api.MaxSource + more - len(text)
		text = "func f" + times("f", fill) + text[len("func f"):]
		if len(text) != api.MaxSource+more {
			t.Fatalf("a wrong test: %d bytes", len(text))
		}
		half := api.MaxSource / 2
		cut := half - half%len(line) // the text is read in two parts, as one may be too long
		at := len(head) + fill + cut
		first, second := taken(t, text[:at]+end), taken(t, "func f() i64 {\n"+text[at:])
		tree := joined(first, second)
		tree.Funcs[0].Name = "f" + times("f", fill)
		wantPrint(t, tree, text)
		if _, f := syntax.Parse(text); (f.Err == api.ErrLong) != (more > 0) {
			t.Errorf("%d bytes more: %v", more, f)
		}
	}
}

// joined is the tree of one function with the statements of two.
func joined(a, b api.Tree) api.Tree {
	nodes := copied(a).Nodes
	body := nodes[len(nodes)-1]
	nodes = append(nodes[:len(nodes)-1], shifted(b.Nodes, len(nodes)-1)...)
	last := &nodes[len(nodes)-1]
	last.Kids = append(body.Kids, last.Kids...)
	return api.Tree{Nodes: nodes, Funcs: []api.Func{{Name: "f", Result: api.I64, Body: len(nodes) - 1}}}
}
