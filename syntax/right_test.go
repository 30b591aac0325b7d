package syntax_test

import (
	"math"
	"slices"
	"strings"
	"testing"

	"smithy/api"
	"smithy/syntax"
)

// everything is a source with nodes of all kinds, and more than one function.
const everything = `func f(a i64, b u8) i64 {
	var c i32 = 5i32; var d [7] f64; c = -a + b * 2; d[a] = 0.5; g(a, b, 1);
	if a < b && true { break; } else if !b || a == 1 { continue; } else { print d[1]; }
	while u8(a) != 255u8 { g(); }
	return (a - b) - (a - b);
}
func g() bool { return false; }
func h(x f64) f64 { }
`

// asOracle tells what P3.2 says: whether Parse tells t of some source, but for all places.
func asOracle(t api.Tree) bool {
	tree, f := syntax.Parse(spelled(t))
	return f == (api.Fault{}) && same(tree, t)
}

// wantRightness asks whether a tree is right, and that the source it would have says so, too.
func wantRightness(t *testing.T, tree api.Tree, want bool, what string) {
	t.Helper()
	if syntax.Right(tree) != want {
		t.Errorf("%s: Right is not %t", what, want)
	}
	if asOracle(tree) != want {
		t.Errorf("%s: read again: not %t", what, want)
	}
}

// turned asks that everything, with something turned, is right no longer.
func turned(t *testing.T, what string, turn func(*api.Tree)) {
	t.Helper()
	tree := copied(taken(t, everything), true)
	turn(&tree)
	wantRightness(t, tree, false, what)
}

// eachNode calls do for each node of everything, with its place.
func eachNode(t *testing.T, do func(i int, n api.Node)) {
	t.Helper()
	for i, n := range taken(t, everything).Nodes {
		do(i, n)
	}
}

func TestEverythingIsRight(t *testing.T) {
	tree := taken(t, everything)
	wantRightness(t, tree, true, "everything")
	if len(kindsOf(tree)) != int(api.NodeBlock) {
		t.Errorf("only %d kinds", len(kindsOf(tree)))
	}
}

// Places play no part, whatever they are.
func TestPlacesPlayNoPart(t *testing.T) {
	for _, at := range []int{0, -1, 7, math.MaxInt, math.MinInt} {
		tree := copied(taken(t, everything), true)
		for i := range tree.Nodes {
			tree.Nodes[i].At = at
		}
		for i := range tree.Funcs {
			tree.Funcs[i].At = at
			for j := range tree.Funcs[i].Params {
				tree.Funcs[i].Params[j].At = at
			}
		}
		wantRightness(t, tree, true, "places")
	}
}

func TestWrongKinds(t *testing.T) {
	eachNode(t, func(i int, n api.Node) {
		for _, k := range []api.NodeKind{0, 22, 23, 128, 255} {
			turned(t, "a kind that is none", func(tree *api.Tree) { tree.Nodes[i].Kind = k })
		}
		for k := api.NodeLit; k <= api.NodeBlock; k++ {
			tree := copied(taken(t, everything), true)
			tree.Nodes[i].Kind = k
			if syntax.Right(tree) != asOracle(tree) {
				t.Errorf("node %d as %d: Right is not as it is read", i, k)
			}
			mayStand := k == n.Kind || k <= api.NodeEither && n.Kind <= api.NodeEither || api.NodeVar <= k && k <= api.NodeDo && api.NodeVar <= n.Kind && n.Kind <= api.NodeDo
			if syntax.Right(tree) && !mayStand {
				t.Errorf("node %d of the kind %d may not be %d", i, n.Kind, k)
			}
		}
	})
}

// Fields that a kind does not have must be 0; those that it has, right.
func TestWrongFields(t *testing.T) {
	named := []api.NodeKind{api.NodeName, api.NodeItem, api.NodeCall, api.NodeVar, api.NodeArray, api.NodeSet, api.NodePut}
	typed := []api.NodeKind{api.NodeLit, api.NodeCast, api.NodeVar, api.NodeArray}
	eachNode(t, func(i int, n api.Node) {
		if !slices.Contains(named, n.Kind) {
			turned(t, "a name", func(tree *api.Tree) { tree.Nodes[i].Name = "a" })
		}
		if !slices.Contains(typed, n.Kind) {
			turned(t, "a type", func(tree *api.Tree) { tree.Nodes[i].Type = api.I64 })
		} else {
			turned(t, "no type", func(tree *api.Tree) { tree.Nodes[i].Type = api.NoType })
		}
		turned(t, "a type that is none", func(tree *api.Tree) { tree.Nodes[i].Type = 6 })
		turned(t, "a type that is none", func(tree *api.Tree) { tree.Nodes[i].Type = 255 })
		turned(t, "an operation that is none", func(tree *api.Tree) { tree.Nodes[i].Op = 19 })
		turned(t, "an operation that is none", func(tree *api.Tree) { tree.Nodes[i].Op = 255 })
		switch n.Kind {
		case api.NodeUnary:
			for op := api.NoOp; op <= api.OpGe; op++ {
				turned(t, "an operation of two", func(tree *api.Tree) { tree.Nodes[i].Op = op })
			}
		case api.NodeBinary:
			for _, op := range []api.Op{api.NoOp, api.OpNeg, api.OpNot} {
				turned(t, "no operation of two", func(tree *api.Tree) { tree.Nodes[i].Op = op })
			}
		default:
			for op := api.OpAdd; op <= api.OpNot; op++ {
				turned(t, "an operation", func(tree *api.Tree) { tree.Nodes[i].Op = op })
			}
		}
		if n.Kind != api.NodeLit {
			turned(t, "bits", func(tree *api.Tree) { tree.Nodes[i].Bits = 1 })
			turned(t, "bits", func(tree *api.Tree) { tree.Nodes[i].Bits = 1 << 63 })
		}
		if n.Kind != api.NodeArray {
			turned(t, "a size", func(tree *api.Tree) { tree.Nodes[i].Size = 1 })
		} else {
			turned(t, "no size", func(tree *api.Tree) { tree.Nodes[i].Size = 0 })
		}
		for _, size := range []int{-1, 257, math.MaxInt, math.MinInt} {
			turned(t, "a size that is none", func(tree *api.Tree) { tree.Nodes[i].Size = size })
		}
	})
}

var wrongNames = []string{"", " ", "a ", " a", "a b", "9", "9a", "a-b", "-", "a.b", "é", "aé", "a\n", "a//", "//", "(a)", "a(b)", "a[1]", "1.5", "a\x00", "\xff", strings.Repeat("n", 33), strings.Repeat("n", 65537), "a;", "a = 1; a"}

var rightNames = []string{"a", "Z", "_", "_9", "func_", "If", "i65", "TRUE", strings.Repeat("n", 32), "_" + strings.Repeat("0", 31)}

func TestNames(t *testing.T) {
	try := func(want bool, names ...string) {
		for _, name := range names {
			eachNode(t, func(i int, n api.Node) {
				if n.Name != "" {
					tree := copied(taken(t, everything), true)
					tree.Nodes[i].Name = name
					wantRightness(t, tree, want, "a node named "+short(name))
				}
			})
			for i := range 3 {
				tree := copied(taken(t, everything), true)
				tree.Funcs[i].Name = name
				wantRightness(t, tree, want, "a function named "+short(name))
				tree = copied(taken(t, everything), true)
				if len(tree.Funcs[i].Params) > 0 {
					tree.Funcs[i].Params[len(tree.Funcs[i].Params)-1].Name = name
					wantRightness(t, tree, want, "a parameter named "+short(name))
				}
			}
		}
	}
	try(false, words...)
	try(false, wrongNames...)
	try(true, rightNames...)
}

func TestWordsOfLiterals(t *testing.T) {
	literal := func(u api.Type, w uint64) api.Tree {
		return api.Tree{
			Nodes: []api.Node{{Kind: api.NodeLit, Type: u, Bits: w}, {Kind: api.NodePrint, Kids: []int{0}}, {Kind: api.NodeBlock, Kids: []int{1}}},
			Funcs: []api.Func{{Name: "f", Result: api.I64, Body: 2}}}
	}
	for u, most := range map[api.Type]uint64{api.Bool: 1, api.U8: 255, api.I32: 1<<31 - 1, api.I64: 1<<63 - 1, api.F64: 0x7fefffffffffffff} {
		for _, w := range []uint64{0, 1, most / 2, most - 1, most} {
			wantRightness(t, literal(u, w), true, "a literal's word")
		}
		for _, w := range []uint64{most + 1, most + 2, 1 << 63, 1<<63 + 1, 1<<64 - 256, 1<<64 - 1} {
			wantRightness(t, literal(u, w), false, "no literal's word")
		}
	}
	// Infinities, NaNs, what is below 0, nought with a sign.
	for _, w := range []uint64{0x7ff0000000000000, 0xfff0000000000000, 0x7ff8000000000000, 0x7ff0000000000001, 0xfff8000000000000, 0x8000000000000000, 0x8000000000000001, math.Float64bits(-1.5), 0xffefffffffffffff} {
		wantRightness(t, literal(api.F64, w), false, "no literal's float")
	}
	for _, w := range []uint64{0, 1, 0x000fffffffffffff, 0x0010000000000000, math.Float64bits(0.1), math.Float64bits(1e300)} {
		wantRightness(t, literal(api.F64, w), true, "a literal's float")
	}
	for _, u := range []api.Type{api.NoType, 6, 7, 255} {
		wantRightness(t, literal(u, 0), false, "a literal of no type")
	}
}

func TestTypesAndSizes(t *testing.T) {
	tree := func(size int, u api.Type) api.Tree {
		return api.Tree{
			Nodes: []api.Node{{Kind: api.NodeArray, Name: "a", Type: u, Size: size}, {Kind: api.NodeBlock, Kids: []int{0}}},
			Funcs: []api.Func{{Name: "f", Params: []api.Param{{Name: "p", Type: u}}, Result: u, Body: 1}}}
	}
	for u := api.Bool; u <= api.F64; u++ {
		for size, want := range map[int]bool{1: true, 2: true, 255: true, 256: true, 0: false, -1: false, 257: false, 512: false, 1 << 40: false} {
			wantRightness(t, tree(size, u), want, "a size")
		}
	}
	for _, u := range []api.Type{api.NoType, 6, 99, 255} {
		for _, turn := range []func(*api.Tree){
			func(tree *api.Tree) { tree.Nodes[0].Type = u },
			func(tree *api.Tree) { tree.Funcs[0].Result = u },
			func(tree *api.Tree) { tree.Funcs[0].Params[0].Type = u },
		} {
			wrong := tree(1, api.I64)
			turn(&wrong)
			wantRightness(t, wrong, false, "a type that is none")
		}
	}
}

func TestWrongKids(t *testing.T) {
	eachNode(t, func(i int, n api.Node) {
		kids := func(what string, l ...int) {
			t.Helper()
			turned(t, what, func(tree *api.Tree) { tree.Nodes[i].Kids = l })
		}
		for _, more := range []int{-1, 0, i - 1, i, i + 1, 1 << 40, math.MinInt} {
			kids("a kid more", append(slices.Clone(n.Kids), more)...)
			kids("a kid more ahead", append([]int{more}, n.Kids...)...)
		}
		if len(n.Kids) == 0 {
			return
		}
		kids("no kids")
		kids("the last kid is gone", n.Kids[:len(n.Kids)-1]...)
		kids("the first kid is gone", n.Kids[1:]...)
		kids("a kid twice", append(slices.Clone(n.Kids), n.Kids[0])...)
		for j := range n.Kids {
			for _, other := range []int{-1, n.Kids[j] - 1, n.Kids[j] + 1, i, i + 1, 1 << 40, math.MaxInt, math.MinInt} {
				l := slices.Clone(n.Kids)
				l[j] = other
				kids("another kid", l...)
			}
			if j > 0 {
				l := slices.Clone(n.Kids)
				l[0], l[j] = l[j], l[0]
				kids("kids in another order", l...)
				l[0], l[j] = n.Kids[0], n.Kids[0]
				kids("one kid twice", l...)
			}
		}
	})
}

func TestWrongNodesAndFunctions(t *testing.T) {
	last := len(taken(t, everything).Nodes) - 1
	turned(t, "a node more", func(tree *api.Tree) { tree.Nodes = append(tree.Nodes, api.Node{Kind: api.NodeBlock}) })
	turned(t, "a node more", func(tree *api.Tree) { tree.Nodes = append(tree.Nodes, api.Node{Kind: api.NodeBreak}) })
	turned(t, "a node more ahead", func(tree *api.Tree) {
		tree.Nodes = append([]api.Node{{Kind: api.NodeName, Name: "a"}}, tree.Nodes...)
	})
	turned(t, "a node less", func(tree *api.Tree) { tree.Nodes = tree.Nodes[:last] })
	turned(t, "no node", func(tree *api.Tree) { tree.Nodes = nil })
	turned(t, "no function", func(tree *api.Tree) { tree.Funcs = nil })
	turned(t, "a function less", func(tree *api.Tree) { tree.Funcs = tree.Funcs[:2] })
	turned(t, "a function less ahead", func(tree *api.Tree) { tree.Funcs = tree.Funcs[1:] })
	turned(t, "a body twice", func(tree *api.Tree) { tree.Funcs = append(tree.Funcs, tree.Funcs[2]) })
	turned(t, "functions in another order", func(tree *api.Tree) { tree.Funcs[0], tree.Funcs[1] = tree.Funcs[1], tree.Funcs[0] })
	for i := range 3 {
		for _, by := range []int{-1, 1, -1 << 40, 1 << 40, math.MinInt, math.MaxInt} {
			turned(t, "another body", func(tree *api.Tree) { tree.Funcs[i].Body += by })
		}
		for _, body := range []int{-1, 0, last, last + 1} {
			tree := copied(taken(t, everything), true)
			if tree.Funcs[i].Body != body {
				tree.Funcs[i].Body = body
				wantRightness(t, tree, false, "another body")
			}
		}
	}
	turned(t, "two nodes changed places", func(tree *api.Tree) { tree.Nodes[0], tree.Nodes[1] = tree.Nodes[1], tree.Nodes[0] })
	// A body must be a block, and a block is no statement.
	f := []api.Func{{Name: "f", Result: api.I64}}
	wantRightness(t, api.Tree{Nodes: []api.Node{{Kind: api.NodeBlock}}, Funcs: f}, true, "an empty body")
	for _, n := range []api.Node{{Kind: api.NodeBreak}, {Kind: api.NodeName, Name: "a"}, {Kind: api.NodeLit, Type: api.I64}, {Kind: api.NodeCall, Name: "g"}} {
		wantRightness(t, api.Tree{Nodes: []api.Node{n}, Funcs: f}, false, "a body that is no block")
	}
	f = []api.Func{{Name: "f", Result: api.I64, Body: 1}}
	wantRightness(t, api.Tree{Nodes: []api.Node{{Kind: api.NodeBlock}, {Kind: api.NodeBlock, Kids: []int{0}}}, Funcs: f}, false, "a block in a block")
	// Kids that stand in the right order, but not all of a kid's ahead of the next one.
	nodes := []api.Node{{Kind: api.NodeName, Name: "a"}, {Kind: api.NodeName, Name: "b"}, {Kind: api.NodePrint, Kids: []int{0}}, {Kind: api.NodePrint, Kids: []int{1}}, {Kind: api.NodeBlock, Kids: []int{2, 3}}}
	f = []api.Func{{Name: "f", Result: api.I64, Body: 4}}
	wantRightness(t, api.Tree{Nodes: nodes, Funcs: f}, false, "nodes that are mixed")
	nodes = []api.Node{nodes[0], {Kind: api.NodePrint, Kids: []int{0}}, nodes[1], {Kind: api.NodePrint, Kids: []int{2}}, {Kind: api.NodeBlock, Kids: []int{1, 3}}}
	wantRightness(t, api.Tree{Nodes: nodes, Funcs: f}, true, "nodes in order")
	// One function's nodes among another one's.
	wantRightness(t, api.Tree{Nodes: []api.Node{{Kind: api.NodeBreak}, {Kind: api.NodeBlock}, {Kind: api.NodeBlock, Kids: []int{0}}}, Funcs: []api.Func{{Name: "f", Result: api.I64, Body: 1}, {Name: "g", Result: api.I64, Body: 2}}}, false, "functions that are mixed")
	wantRightness(t, api.Tree{}, true, "nothing")
	wantRightness(t, api.Tree{Nodes: []api.Node{}, Funcs: []api.Func{}}, true, "empty lists")
	wantRightness(t, api.Tree{Funcs: []api.Func{{}}}, false, "a function of nothing")
	wantRightness(t, api.Tree{Nodes: []api.Node{{}}}, false, "a node of nothing")
}

// Each expression at each place where one may stand, and its nodes as all kinds.
func TestExpressionsAsKids(t *testing.T) {
	for _, e := range []string{"1", "a", "a[1]", "g()", "u8(1)", "-a", "a + b", "a && b", "a || b"} {
		for _, stmt := range []string{"print E;", "return E;", "a = E;", "var a i64 = E;", "a[E] = E;", "if E {}", "while E {}", "g(E);", "g(E, E);", "print -(E);", "print (E) + (E);", "print (E) && (E);", "print (E) || (E);", "print a[E];", "print u8(E);"} {
			tree := taken(t, inBody(strings.ReplaceAll(stmt, "E", e)))
			wantRightness(t, tree, true, stmt+" of "+e)
			for i := range tree.Nodes {
				for k := api.NodeKind(0); k < 24; k++ {
					wrong := copied(tree, true)
					wrong.Nodes[i].Kind = k
					if syntax.Right(wrong) != asOracle(wrong) {
						t.Errorf("%s of %s, node %d as %d: Right is not as it is read", stmt, e, i, k)
					}
				}
			}
		}
	}
}

// Trees turned at one or two places without a pattern are right just if they are read again as they are.
func TestTurnedTrees(t *testing.T) {
	var trees []api.Tree
	for m := range makers(400) {
		if m.tooDeep < 0 && len(m.tree.Nodes) < 80 {
			trees = append(trees, m.tree)
		}
	}
	o := firstOdd
	right := 0
	const all = 15000
	for range all {
		tree := copied(pick(&o, trees...), true)
		for range 1 + o.below(2) {
			turn(&o, &tree)
		}
		want := asOracle(tree)
		if want {
			right++
		}
		if syntax.Right(tree) != want {
			t.Fatalf("Right of %v is not %t, as %s is read", tree, want, short(spelled(tree)))
		}
	}
	if right < all/20 || right > all*19/20 {
		t.Errorf("%d of %d are right: too one-sided a test", right, all)
	}
}

// turn changes one field, kid or number.
func turn(o *odds, t *api.Tree) {
	if o.often(10) {
		f := &t.Funcs[o.below(len(t.Funcs))]
		switch o.below(4) {
		case 0:
			f.Name = pick(o, append(rightNames, wrongNames...)...)
		case 1:
			f.Result = api.Type(o.below(8))
		case 2:
			f.Body += o.below(5) - 2
		case 3:
			f.Params = append(f.Params, api.Param{Name: pick(o, "a", "b", "if", ""), Type: api.Type(o.below(8))})
		}
		return
	}
	n := &t.Nodes[o.below(len(t.Nodes))]
	switch o.below(8) {
	case 0:
		n.Kind = api.NodeKind(o.below(24))
	case 1:
		if n.Name != "" || o.often(20) {
			n.Name = pick(o, append(rightNames, wrongNames...)...)
		}
	case 2:
		if n.Type != 0 || o.often(20) {
			n.Type = api.Type(o.below(8))
		}
	case 3:
		if n.Op != 0 || o.often(20) {
			n.Op = api.Op(o.below(21))
		}
	case 4:
		if n.Kind == api.NodeLit || o.often(20) {
			n.Bits = pick[uint64](o, 0, 1, 2, 255, 256, 1<<31-1, 1<<31, 1<<63-1, 1<<63, 1<<64-1, 0x7ff0000000000000, 0x7fefffffffffffff)
		}
	case 5:
		if n.Size != 0 || o.often(20) {
			n.Size = pick(o, 0, 1, 2, 256, 257, -1)
		}
	case 6:
		if len(n.Kids) > 0 && o.often(50) {
			n.Kids[o.below(len(n.Kids))] += o.below(3) - 1
		} else if len(n.Kids) > 0 {
			n.Kids = slices.Delete(n.Kids, 0, 1)
		}
	case 7:
		i, j := o.below(len(t.Nodes)), o.below(len(t.Nodes))
		t.Nodes[i].Name, t.Nodes[j].Name = t.Nodes[j].Name, t.Nodes[i].Name
	}
}

// shaped is a tree of one function that does something with an expression or block, which grows node by node.
type shaped struct{ nodes []api.Node }

func (s *shaped) put(n api.Node) int {
	s.nodes = append(s.nodes, n)
	return len(s.nodes) - 1
}

// tree ends it: the last node is an expression that is printed, or a statement.
func (s *shaped) tree() api.Tree {
	last := len(s.nodes) - 1
	if s.nodes[last].Kind <= api.NodeEither {
		last = s.put(api.Node{Kind: api.NodePrint, Kids: []int{last}})
	}
	body := s.put(api.Node{Kind: api.NodeBlock, Kids: []int{last}})
	return api.Tree{Nodes: s.nodes, Funcs: []api.Func{{Name: "f", Result: api.I64, Body: body}}}
}

// grown is a tree that is grown so many times from a name.
func grown(times int, grow func(s *shaped, last int)) api.Tree {
	s := &shaped{nodes: []api.Node{{Kind: api.NodeName, Name: "a"}}}
	for range times {
		grow(s, len(s.nodes)-1)
	}
	return s.tree()
}

// wantDepth asks that a tree may be grown just so many times.
func wantDepth(t *testing.T, what string, may int, grow func(s *shaped, last int)) {
	t.Helper()
	for times := 1; times < may+20; times++ {
		tree := grown(times, grow)
		if syntax.Right(tree) != (times <= may) || len(spelled(tree)) <= api.MaxSource && asOracle(tree) != (times <= may) {
			t.Errorf("%s, %d times: right is not %t", what, times, times <= may)
		}
	}
}

func TestTreesTooDeep(t *testing.T) {
	one := func(n api.Node) func(*shaped, int) {
		return func(s *shaped, last int) {
			n.Kids = []int{last}
			s.put(n)
		}
	}
	wantDepth(t, "-", 31, one(api.Node{Kind: api.NodeUnary, Op: api.OpNeg}))
	wantDepth(t, "!", 31, one(api.Node{Kind: api.NodeUnary, Op: api.OpNot}))
	wantDepth(t, "u8( )", 31, one(api.Node{Kind: api.NodeCast, Type: api.U8}))
	wantDepth(t, "a[ ]", 31, one(api.Node{Kind: api.NodeItem, Name: "a"}))
	wantDepth(t, "g( )", 31, one(api.Node{Kind: api.NodeCall, Name: "g"}))
	for i, row := range rows {
		for _, sign := range row {
			n := api.Node{Kind: api.NodeBinary, Op: ops[sign]}
			if i == 0 {
				n.Kind = api.NodeEither
			} else if i == 1 {
				n.Kind = api.NodeBoth
			}
			// To the left a row goes on, and needs no parentheses.
			left := grown(1000, func(s *shaped, last int) {
				n.Kids = []int{last, s.put(api.Node{Kind: api.NodeName, Name: "b"})}
				s.put(n)
			})
			wantRightness(t, left, true, "to the left: "+sign)
			// To the right each but the first is parenthesised, and all operands stand ahead of all operators.
			right := func(times int) api.Tree {
				s := &shaped{}
				for range times + 1 {
					s.put(api.Node{Kind: api.NodeName, Name: "b"})
				}
				for j := range times {
					n.Kids = []int{times - 1 - j, len(s.nodes) - 1}
					s.put(n)
				}
				return s.tree()
			}
			wantRightness(t, right(32), true, "to the right: "+sign)
			wantRightness(t, right(33), false, "to the right, once more: "+sign)
		}
	}
}

func TestBlocksTooDeep(t *testing.T) {
	// nest is so many ifs in one another: in the first block, in the else part, or in while's.
	nest := func(times int, about func(cond, inner int, s *shaped)) api.Tree {
		s := &shaped{}
		for range times {
			s.put(api.Node{Kind: api.NodeName, Name: "c"})
		}
		s.put(api.Node{Kind: api.NodeBreak})
		for i := range times {
			inner := s.put(api.Node{Kind: api.NodeBlock, Kids: []int{len(s.nodes) - 1}})
			about(times-1-i, inner, s)
		}
		return s.tree()
	}
	first := func(cond, inner int, s *shaped) { s.put(api.Node{Kind: api.NodeIf, Kids: []int{cond, inner}}) }
	loop := func(cond, inner int, s *shaped) {
		s.put(api.Node{Kind: api.NodeWhile, Kids: []int{cond, inner}})
	}
	for _, about := range []func(int, int, *shaped){first, loop} {
		wantRightness(t, nest(31, about), true, "31 blocks in a body")
		wantRightness(t, nest(32, about), false, "32 blocks in a body")
		wantRightness(t, nest(100, about), false, "100 blocks in a body")
	}
}

// sample puts a node of a kind, with what must stand below it.
func (s *shaped) sample(k api.NodeKind) int {
	switch k {
	case api.NodeLit:
		return s.put(api.Node{Kind: k, Type: api.I64, Bits: 1})
	case api.NodeName, api.NodeCall:
		return s.put(api.Node{Kind: k, Name: "a"})
	case api.NodeArray:
		return s.put(api.Node{Kind: k, Name: "a", Type: api.U8, Size: 3})
	case api.NodeBreak, api.NodeNext, api.NodeBlock:
		return s.put(api.Node{Kind: k})
	case api.NodeDo:
		return s.put(api.Node{Kind: k, Kids: []int{s.sample(api.NodeCall)}})
	case api.NodeIf, api.NodeWhile:
		return s.about(k, api.NodeName, api.NodeBlock)
	case api.NodeBinary, api.NodeBoth, api.NodeEither, api.NodePut:
		return s.about(k, api.NodeName, api.NodeName)
	}
	return s.about(k, api.NodeName)
}

// about puts a node of a kind whose kids are of some kinds, whether they may be so or not.
func (s *shaped) about(k api.NodeKind, kids ...api.NodeKind) int {
	n := api.Node{Kind: k}
	for _, kid := range kids {
		n.Kids = append(n.Kids, s.sample(kid))
	}
	switch k {
	case api.NodeItem, api.NodeCall, api.NodeVar, api.NodeSet, api.NodePut, api.NodeName, api.NodeArray:
		n.Name = "b"
	}
	switch k {
	case api.NodeCast, api.NodeVar, api.NodeArray, api.NodeLit:
		n.Type = api.I64
	case api.NodeUnary:
		n.Op = api.OpNeg
	case api.NodeBinary:
		n.Op = api.OpSub
	}
	if k == api.NodeArray {
		n.Size = 2
	}
	return s.put(n)
}

// Each kind with kids of all kinds, and more of them than any has.
func TestKidsOfEachKind(t *testing.T) {
	var all []api.NodeKind
	for k := api.NodeLit; k <= api.NodeBlock; k++ {
		all = append(all, k)
	}
	few := []api.NodeKind{api.NodeName, api.NodeCall, api.NodeBreak, api.NodeBlock}
	rowsOf := [][][]api.NodeKind{{}, {all}, {all, all}, {few, few, few}, {few, few, few, few}}
	right := map[api.NodeKind]int{}
	for k := api.NodeLit; k <= api.NodeBlock; k++ {
		for _, choices := range rowsOf {
			eachRow(choices, nil, func(kids []api.NodeKind) {
				s := &shaped{}
				tree := api.Tree{Funcs: []api.Func{{Name: "f", Result: api.I64, Body: s.about(k, kids...)}}}
				if tree.Nodes = s.nodes; k != api.NodeBlock {
					tree = s.tree()
				}
				want := asOracle(tree)
				if syntax.Right(tree) != want {
					t.Errorf("%d with kids of %v: Right is not %t", k, kids, want)
				}
				if want {
					right[k]++
				}
			})
		}
	}
	for k, want := range map[api.NodeKind]int{
		api.NodeLit: 1, api.NodeName: 1, api.NodeArray: 1, api.NodeBreak: 1, api.NodeNext: 1, api.NodeDo: 1, api.NodeIf: 9 + 2, api.NodeWhile: 9,
		api.NodeItem: 9, api.NodeCast: 9, api.NodeUnary: 9, api.NodeVar: 9, api.NodeSet: 9, api.NodeReturn: 9, api.NodePrint: 9, api.NodeBinary: 81, api.NodeBoth: 81, api.NodeEither: 81, api.NodePut: 81,
		api.NodeCall: 1 + 9 + 81 + 8 + 16, api.NodeBlock: 1 + 11 + 121 + 1 + 1,
	} {
		if right[k] != want {
			t.Errorf("of the kind %d %d are right, not %d", k, right[k], want)
		}
	}
}

// eachRow calls do with each row that has one of the choices at each place.
func eachRow(choices [][]api.NodeKind, row []api.NodeKind, do func([]api.NodeKind)) {
	if len(choices) == 0 {
		do(row)
		return
	}
	for _, k := range choices[0] {
		eachRow(choices[1:], append(slices.Clone(row), k), do)
	}
}

// inElse is a function whose body is the else part of the only statement of a new one.
func inElse(t api.Tree) api.Tree {
	nodes := []api.Node{{Kind: api.NodeName, Name: "c"}, {Kind: api.NodeBlock}}
	for _, n := range t.Nodes {
		n.Kids = slices.Clone(n.Kids)
		for i := range n.Kids {
			n.Kids[i] += 2
		}
		nodes = append(nodes, n)
	}
	s := &shaped{nodes: nodes}
	s.put(api.Node{Kind: api.NodeIf, Kids: []int{0, 1, len(nodes) - 1}})
	return s.tree()
}

func TestElsePartsTooDeep(t *testing.T) {
	for body, opens := range map[string]int{"": 1, "break;": 1, "a[i] = b;": 1, "print (a);": 1, "print -a;": 2, "if a {}": 2, "if -g() {}": 3, "if a {} else if b {}": 3, "if a {} else if -b {} else {}": 3, "f(g(h()));": 4, "a[b[i]] = -(c + d);": 3, "while a { if b { print !c; } }": 4} {
		tree := taken(t, inBody(body))
		for ; opens <= 40; opens++ {
			wantRightness(t, tree, opens <= api.MaxNest, body+" in else parts")
			tree = inElse(tree)
		}
	}
}

// A tree that is far too deep, and one that is long, take no more room than they should.
func TestGreatTrees(t *testing.T) {
	const many = 100000
	deep := grown(many, func(s *shaped, last int) {
		s.put(api.Node{Kind: api.NodeUnary, Op: api.OpNeg, Kids: []int{last}})
	})
	if syntax.Right(deep) {
		t.Error("too deep, and right")
	}
	long := grown(many, func(s *shaped, last int) {
		s.put(api.Node{Kind: api.NodeBinary, Op: api.OpSub, Kids: []int{last, s.put(api.Node{Kind: api.NodeName, Name: "b"})}})
	})
	if !syntax.Right(long) {
		t.Error("a long row is not right: its source may be of any length")
	}
}
