package mean_test

import (
	"math"
	"testing"

	"smithy/api"
	"smithy/mean"
)

// wantRefused asks for an error, and nothing beside it.
func wantRefused(t *testing.T, want api.Errno, tree api.Tree, f int, args []uint64, steps, depth int, what string) {
	t.Helper()
	trace, err := mean.Run(tree, f, args, steps, depth)
	if err != want {
		t.Errorf("%s: Run tells %d; want %d", what, err, want)
	}
	if !same(trace, api.Trace{}) {
		t.Errorf("%s: beside an error Run tells %v", what, trace)
	}
}

// A tree with any fault is no tree that could be run, wherever the fault is.
func TestTreesWithFaults(t *testing.T) {
	for _, src := range []string{
		"func f() i64 { return x; }", "func f() i64 { return true; }", "func f() i64 { break; }", "func f() i64 {} func f() i64 {}", "func f() i64 {} func g(a i64, a i64) i64 {}",
		"func f() i64 { return 1; } func g() i64 { return 1u8; }", "func f() i64 { return 1; x = 2; }", "func f() i64 { if false { print y; } }", "func f() i64 { g(); }",
		"func f() i64 { var a[256] u8; var b[256] u8; var c[256] u8; var d[256] u8; var e u8 = 1u8; }",
	} {
		wantRefused(t, api.ErrShape, taken(t, src), 0, nil, many, many, src)
	}
	block := api.Node{Kind: api.NodeBlock}
	for what, tree := range map[string]api.Tree{
		"a node without a function": {Nodes: []api.Node{block}},
		"a function without a node": {Funcs: []api.Func{{Name: "f", Result: api.I64}}},
		"a node of no kind":         {Nodes: []api.Node{{}}, Funcs: []api.Func{{Name: "f", Result: api.I64}}},
		"a body that is no node":    {Nodes: []api.Node{block}, Funcs: []api.Func{{Name: "f", Result: api.I64, Body: 1}}},
		"a kid that is no node":     {Nodes: []api.Node{{Kind: api.NodeBlock, Kids: []int{7}}}, Funcs: []api.Func{{Name: "f", Result: api.I64}}},
		"a node that is its kid":    {Nodes: []api.Node{{Kind: api.NodeBlock, Kids: []int{0}}}, Funcs: []api.Func{{Name: "f", Result: api.I64}}},
	} {
		wantRefused(t, api.ErrShape, tree, 0, nil, many, many, what)
	}
}

func TestWrongArguments(t *testing.T) {
	tree := taken(t, "func f(a u8, b i64) i64 { print a; return b; } func g() i64 { return 1; }")
	right := []uint64{255, 1}
	for _, f := range []int{-1, 2, 3, 64, math.MinInt, math.MaxInt} {
		wantRefused(t, api.ErrArg, tree, f, nil, many, many, "a function's place")
		wantRefused(t, api.ErrArg, tree, f, right, many, many, "a function's place")
	}
	for _, args := range [][]uint64{nil, {}, {1}, {1, 2, 3}, {256, 1}, {minus(1), 1}} {
		wantRefused(t, api.ErrArg, tree, 0, args, many, many, "words")
	}
	wantRefused(t, api.ErrArg, tree, 1, []uint64{1}, many, many, "words")
	for _, below := range []int{-1, -2, math.MinInt} {
		wantRefused(t, api.ErrArg, tree, 0, right, below, many, "steps")
		wantRefused(t, api.ErrArg, tree, 0, right, many, below, "depth")
		wantRefused(t, api.ErrArg, tree, 0, right, below, below, "steps and depth")
		wantRefused(t, api.ErrArg, tree, 0, right, 0, below, "depth")
		wantRefused(t, api.ErrArg, tree, 0, right, below, 0, "steps")
	}
	wantRefused(t, api.ErrArg, api.Tree{}, 0, nil, many, many, "of no functions the first one")

}

// No step and no call at all is asked for, which is no error.
func TestLeastArguments(t *testing.T) {
	tree := taken(t, "func f(a u8) i64 { return 1; }")
	if trace := ran(t, tree, 0, []uint64{255}, 0, 0, "no steps, no depth"); !same(trace, tooDeep(0, 0)) {
		t.Errorf("with no steps, depth 0: %v", trace)
	}
	if trace := ran(t, tree, 0, []uint64{255}, math.MaxInt, math.MaxInt, "all steps"); !same(trace, told(1, 1, 1)) {
		t.Errorf("with as many steps, as great a depth as there are: %v", trace)
	}
}

// Of each type words are taken that are right, and no others.
func TestWordsOfTypes(t *testing.T) {
	wrong := map[api.Type][]uint64{
		api.Bool: {2, 255, minus(1), 1 << 32},
		api.U8:   {256, 1 << 32, minus(1), 1 << 63},
		api.I32:  {1 << 31, 1 << 32, 1 << 63, 1<<64 - 1<<31 - 1, 1<<32 - 1},
		api.F64:  {0x7ff8000000000001, 0xfff8000000000000, 0x7ff0000000000001, minus(1)},
	}
	for _, u := range types {
		for _, first := range []bool{true, false} {
			src, args := "func f(a "+u.word+", b i64) "+u.word+" { print a; return a; }", []uint64{0, 5}
			if !first {
				src, args = "func f(b i64, a "+u.word+") "+u.word+" { print a; return a; }", []uint64{5, 0}
			}
			at := map[bool]int{true: 0, false: 1}[first]
			for _, w := range u.words {
				args[at] = w
				wantRun(t, src, args, many, many, told(w, 1, 1, api.Show{Type: u.Type, Bits: w}))
			}
			for _, w := range wrong[u.Type] {
				args[at] = w
				wantRefused(t, api.ErrArg, taken(t, src), 0, args, many, many, src)
			}
		}
	}
}

// A tree's fault comes ahead of all that is wrong with arguments.
func TestOrderOfErrors(t *testing.T) {
	tree := taken(t, "func f(a u8) i64 { return a; }")
	for _, f := range []int{-1, 0, 1} {
		for _, args := range [][]uint64{nil, {1}, {256}} {
			for _, steps := range []int{-1, 1} {
				for _, depth := range []int{-1, 1} {
					wantRefused(t, api.ErrShape, tree, f, args, steps, depth, "all wrong")
				}
			}
		}
	}
}

// Eight parameters, each with its own word.
func TestAllParameters(t *testing.T) {
	const src = "func f(a i64, b u8, c bool, d f64, e i32, g i64, h u8, i bool) i64 { print a; print b; print c; print d; print e; print g; print h; print i; }"
	args := []uint64{minus(1), 2, 1, bits(4.5), minus(5), 6, 7, 0}
	wantRun(t, src, args, 1, 1, told(0, 1, 1, api.Show{Type: api.I64, Bits: minus(1)}, api.Show{Type: api.U8, Bits: 2}, api.Show{Type: api.Bool, Bits: 1}, api.Show{Type: api.F64, Bits: bits(4.5)},
		api.Show{Type: api.I32, Bits: minus(5)}, api.Show{Type: api.I64, Bits: 6}, api.Show{Type: api.U8, Bits: 7}, api.Show{Type: api.Bool}))
}

// Each function of a tree may be the first one that is called.
func TestEachFunction(t *testing.T) {
	tree := taken(t, "func f() i64 { return 10; } func g(a i64) i64 { return a + f(); } func h(a i64, b i64) i64 { return g(a) * b; }")
	for f, want := range []api.Trace{told(10, 1, 1), told(13, 2, 2), told(26, 3, 3)} {
		if trace := ran(t, tree, f, []uint64{3, 2}[:f], many, many, "a function"); !same(trace, want) {
			t.Errorf("of function %d: %v; want %v", f, trace, want)
		}
	}
}
