package dce_test

import (
	"testing"

	"smithy/api"
	"smithy/lower"
	"smithy/run"
	"smithy/ssa"
	"smithy/syntax"
)

// lowered is a source as a program.
func lowered(t *testing.T, source string) []api.Graph {
	t.Helper()
	tree, fault := syntax.Parse(source)
	if fault.Err != api.OK {
		t.Fatalf("%s: Parse tells %v", source, fault)
	}
	p, e := lower.Lower(tree)
	if e != api.OK {
		t.Fatalf("%s: Lower tells %d", source, e)
	}
	return p
}

// built is a program each of whose graphs is set once.
func built(t *testing.T, p []api.Graph) []api.Graph {
	t.Helper()
	for f := range p {
		g, e := ssa.Build(p, f)
		if e != api.OK {
			t.Fatalf("Build tells %d of %v, %d", e, p, f)
		}
		p = with(p, f, g)
	}
	return p
}

// sources are such that much of them is reckoned in vain: nobody asks for it, or only what nobody asks for does.
var sources = []string{
	"func f(n i64) i64 { var a i64 = n * 3 + 1; var b i64 = a * a; print n; b = b - a; if n == 2 { b = 7; return 7 / (n - 2); } return n; }",
	"func f(n i64) i64 { var i i64 = 0; var s i64 = 0; while i < n * n { print i; i = i + 1; s = s + i * i; } var k bool = s > i; k = !k; return 12 % (n - 3); }",
	"func f(n i64) i64 { var a i64 = n + 1; if n < 2 { return n; } var b i64 = f(n - 1); b = b + a; return f(n - 2) + f(n - 3); }",
	"func f(n i64) i64 { print n; if n - 1 < 0 { return g(n - 1); } g(n); var k i64 = g(n + 5); return f(n - 1); } func g(n i64) i64 { var x i64 = n * 7; if n == 0 - 1 { print 0 - 1; return f(n - 1); } if n > 7 { return x / 0; } return 0 - 1; }",
	"func f(n i64) i64 { var a[3] i64; var b[2] u8; a[n] = n + 1; b[1] = u8(n); var s i64 = a[n] + i64(b[1]); print a[n]; s = s + a[0]; a[1] = s; s = 0; var c[3] i64; c[0] = a[n]; var k i64 = c[0] + c[1]; return 8 / a[0]; }",
	"func f(n i64) i64 { var x f64 = f64(n); var y f64 = x * 0.5; y = y / y; print x / x; print -x; var z i64 = i64(x); var w f64 = y + f64(z); w = w * w; if x / x != x / x { y = w; return i64(x / x); } return i64(x * x); }",
	"func f(n i64) i64 { var a i64 = n; var b i64 = a; var c i64 = b; while c < 5 { a = b; b = a; c = c + 1; if c == 3 { print c; a = c; } else { continue; } print c + 1; b = a + 1; } return c / (5 - n); }",
	"func f(n i64) i64 { var k bool = n > 1; var u u8 = u8(n) + u8(1); if k && n < 4 || !k && 1 < n { u = u * u; print u8(n); return i64(g(u8(n), u)); } u = u + u8(1); return i64(g(u8(n), u)); } func g(b u8, c u8) u8 { c = c + b; var d u8 = c; print b; d = d / b; return b / b; }",
	"func f(n i64) i64 { var w i64 = n * n; print n; w = w + f(n + 1); return 5; }",
	"func f(n i64) i64 { var a i64 = 0; var b i64 = 1; while n == n { print n + n; n = n + 1; var k i64 = a; a = b; b = k + a; } return 5; }",
}

// Runs are the same, cut off at each step and at each depth, with one graph told and with all of them; as the source stands, and set once.
func TestRunsCutOffAnywhere(t *testing.T) {
	count := map[api.End]int{}
	gone := 0
	for _, source := range sources {
		lines := lowered(t, source)
		for _, p := range [][]api.Graph{lines, built(t, lines)} {
			all := p
			programs := [][]api.Graph{}
			for f := range p {
				g := wantKept(t, source, p, f)
				gone += countAll(p[f]) - countAll(g)
				programs = append(programs, with(p, f, g))
				all = with(all, f, wantKept(t, source, all, f))
			}
			for _, q := range append(programs, all) {
				for _, n := range []int64{-1, 0, 1, 2, 3, 6} {
					for depth := range 8 {
						for steps := range 40 {
							count[wantSameRun(t, source, p, q, 0, []uint64{integer(n)}, steps, depth).End]++
						}
						count[wantSameRun(t, source, p, q, 0, []uint64{integer(n)}, 1000, depth).End]++
					}
				}
			}
		}
	}
	for _, end := range []api.End{api.Told, api.Trapped, api.Steps, api.Deep} {
		if count[end] < 500 {
			t.Errorf("%d ended with %d", count[end], end)
		}
	}
	if gone < 60 {
		t.Errorf("%d instructions have gone", gone)
	}
}

// Steps and Depth of runs that end, and of those that have one too few.
func TestStepsAndDepth(t *testing.T) {
	p := built(t, lowered(t, sources[2]))
	q := alone(wantKept(t, "calls of itself", p, 0))
	if countAll(q[0]) >= countAll(p[0]) {
		t.Errorf("%v becomes %v", p, q)
	}
	for n := range uint64(8) {
		a := wantSameRun(t, "calls of itself", p, q, 0, []uint64{n}, 10000, 100)
		if a.End != api.Told {
			t.Fatalf("of %d: %v", n, a)
		}
		b := wantSameRun(t, "just as many steps", p, q, 0, []uint64{n}, a.Steps, a.Depth)
		c := wantSameRun(t, "a step too few", p, q, 0, []uint64{n}, a.Steps-1, a.Depth)
		d := wantSameRun(t, "a call too many", p, q, 0, []uint64{n}, a.Steps, a.Depth-1)
		if b.End != api.Told || c.End != api.Steps || d.End != api.Deep {
			t.Errorf("of %d: %v, %v, %v", n, b, c, d)
		}
	}
}

// A call whose word nobody asks for stays: it shows, traps, is Deep, or goes on for ever.
func TestCallsThatNobodyAsks(t *testing.T) {
	caller := func(ref int) api.Graph {
		return numbers(1, 4, block(back(0), copyOf(1, 0), call(ref, 2, 1), sum(3, 2, 2), show(0)))
	}
	callees := []api.Graph{
		numbers(1, 2, block(back(0), show(0), number(1, 1))),
		numbers(1, 2, block(trap(2), show(0), number(1, 1))),
		numbers(1, 2, block(jump(1), number(1, 1)), block(jump(1), show(0))),
		numbers(1, 2, block(back(1), call(4, 1, 0), copyOf(0, 1))),
		numbers(1, 2, block(back(0), number(1, 1))),
	}
	p := append([]api.Graph{}, callees[:4]...)
	p = append(p, numbers(1, 2, block(back(1), show(0), call(4, 1, 0))))
	for ref := range p {
		p = append(p, caller(ref))
	}
	p = append(p, callees[4], caller(len(p)))
	want := []api.End{api.Told, api.Trapped, api.Steps, api.Deep, api.Deep, api.Told}
	callers := []int{5, 6, 7, 8, 9, 11}
	for i, f := range callers {
		g := wantKept(t, "a call that nobody asks", p, f)
		if !sameGraph(g, withBlocks(p[f], block(back(0), copyOf(1, 0), call(p[f].Blocks[0].Ins[1].Ref, 2, 1), show(0)))) {
			t.Errorf("%v becomes %v", p[f], g)
		}
		for steps := range 12 {
			for depth := range 6 {
				wantSameRun(t, "a call that nobody asks", p, with(p, f, g), f, []uint64{7}, steps, depth)
			}
		}
		if a := wantSameRun(t, "a call that nobody asks", p, with(p, f, g), f, []uint64{7}, 30, 10); a.End != want[i] {
			t.Errorf("the callee %d: %v", i, a)
		}
	}
}

// The graph stands beside one that calls it and one that it calls, with parameters of all types in no order; both go on calling.
func TestBesideCallersAndCallees(t *testing.T) {
	caller := api.Graph{Name: "caller", Params: row(0), Result: api.F64, Vars: []api.Type{api.I64, api.Bool, api.U8, api.I32, api.F64, api.F64, api.I64, api.F64, api.Bool}, Blocks: []api.Block{
		block(back(7), op(api.OpLt, 1, 0, 0), cast(2, 0), cast(3, 0), cast(4, 0), not(8, 1), call(1, 5, 4, 2, 1, 0, 3), copyOf(6, 0), call(1, 7, 4, 2, 1, 6, 3), sum(5, 5, 7), show(7)),
	}}
	middle := api.Graph{Name: "middle", Params: row(4, 1, 0, 3, 2), Result: api.F64, Vars: []api.Type{api.Bool, api.U8, api.I32, api.I64, api.F64, api.Bool, api.Bool, api.I64, api.I64, api.I64, api.I64, api.I64},
		Arrays: []api.Array{{Type: api.U8, Size: 2}, {Type: api.F64, Size: 9}}, Blocks: []api.Block{
			block(branch(6, 2, 1), op(api.OpLe, 5, 1, 1), op(api.OpLe, 6, 1, 1), show(0), show(1), show(2), show(3), show(4)),
			block(jump(3), copyOf(8, 3)),
			block(jump(3), call(2, 7, 3, 0), copyOf(9, 7), call(2, 11, 3, 6), store(0, 3, 1)),
			block(branch(6, 5, 4), phi(10, 8, 9), op(api.OpNe, 5, 10, 8)),
			block(trap(3)),
			block(back(4), show(4), load(1, 0, 3)),
		}}
	callee := api.Graph{Name: "callee", Params: row(1, 0), Result: api.I64, Vars: []api.Type{api.Bool, api.I64, api.I64, api.Bool, api.I64}, Blocks: []api.Block{
		block(branch(3, 1, 2), op(api.OpXor, 2, 1, 1), op(api.OpEq, 3, 1, 2), copyOf(4, 2)),
		block(trap(1), number(2, 4)),
		block(back(1), show(1), sum(4, 4, 1)),
	}}
	p := []api.Graph{caller, middle, callee}
	all := p
	for f := range p {
		all = with(all, f, wantKept(t, "one of three", p, f))
	}
	ends := map[api.End]int{}
	for _, q := range [][]api.Graph{all, with(p, 0, all[0]), with(p, 1, all[1]), with(p, 2, all[2])} {
		for _, n := range []int64{0, 1, -5, 300} {
			for steps := range 20 {
				for depth := range 5 {
					ends[wantSameRun(t, "one of three", p, q, 0, []uint64{integer(n)}, steps, depth).End]++
				}
			}
		}
	}
	// Of the first one not and the second sum go; of the second one all but what shows, calls, stores, and asks whether it goes on.
	if countAll(all[0]) != 8 || countAll(all[1]) != 11 || countAll(all[2]) != 4 {
		t.Errorf("%v", all)
	}
	for _, end := range []api.End{api.Told, api.Trapped, api.Steps, api.Deep} {
		if ends[end] < 20 {
			t.Errorf("%v", ends)
		}
	}
}

// A load where there is no element, a division by 0, a cast that does not fit: nothing ends by them, so they go.
func TestWhatMakesNoughtGoes(t *testing.T) {
	for _, w := range []int64{0, 2, 3, -1, 1 << 40} {
		g := numbers(0, 8, block(back(0), number(0, integer(w)), load(1, 0, 0), op(api.OpDiv, 2, 0, 3), op(api.OpRem, 4, 0, 3), cast(8, 0), cast(5, 8), show(0)))
		g.Vars = append(g.Vars, api.U8)
		wantBecome(t, "what makes 0", g, block(back(0), number(0, integer(w)), show(0)))
	}
}

// A store stays though nobody loads, and what is stored is loaded still, round a loop, too.
func TestLoadsAndStores(t *testing.T) {
	const n, i, one, element, next, is, vain = 0, 1, 2, 3, 4, 5, 6
	loop := func(ins ...api.Ins) api.Graph {
		g := numbers(1, 9,
			block(jump(1), number(one, 1), load(vain, 0, n), store(0, n, one)),
			block(branch(is, 1, 2), append([]api.Ins{phi(i, one, next)}, ins...)...),
			block(back(8), load(7, 0, one), wipe(0), load(8, 0, one), show(8)),
		)
		g.Vars[is] = api.Bool
		return g
	}
	all := []api.Ins{load(element, 0, i), sum(next, i, one), load(vain, 0, element), store(0, i, next), op(api.OpLt, is, next, n)}
	left := []api.Ins{sum(next, i, one), store(0, i, next), op(api.OpLt, is, next, n)}
	g := loop(all...)
	wantBecome(t, "loads in vain", g,
		block(jump(1), number(one, 1), store(0, n, one)),
		block(branch(is, 1, 2), append([]api.Ins{phi(i, one, next)}, left...)...),
		block(back(8), wipe(0), load(8, 0, one), show(8)))
	g = loop(append(all, show(element))...)
	h := wantKept(t, "a load that is asked", alone(g), 0)
	if countAll(h) != countAll(g)-3 {
		t.Errorf("%v becomes %v", g, h)
	}
	for n := range uint64(6) {
		if trace, e := run.Run(alone(h), 0, []uint64{n}, 50, 1); e != api.OK || trace.End != api.Told || trace.Value != 0 {
			t.Errorf("%v, %d", trace, e)
		}
	}
}

// Floats: NaN, noughts of either sign, and what is beyond; those that are asked are told to the last bit, those that are not go.
func TestFloats(t *testing.T) {
	for _, v := range wordsOf(api.F64) {
		for _, w := range wordsOf(api.F64) {
			var ins, want []api.Ins
			for i, o := range []api.Op{api.OpAdd, api.OpSub, api.OpMul, api.OpDiv} {
				ins = append(ins, op(o, 2+i, 0, 1), op(o, 6+i, 1, 0), show(2+i))
				want = append(want, op(o, 2+i, 0, 1), show(2+i))
			}
			ins = append(ins, op(api.OpLt, 10, 2, 6), cast(11, 3), op(api.OpNeg, 7, 7), op(api.OpEq, 12, 5, 5), show(12))
			want = append(want, op(api.OpEq, 12, 5, 5), show(12))
			g := graphOf(api.F64, 2, 10, block(back(4), ins...))
			g.Vars = append(g.Vars, api.Bool, api.I64, api.Bool)
			p, q := alone(g), alone(wantApplied(t, "floats", alone(g), 0))
			if !sameGraph(q[0], withBlocks(g, block(back(4), want...))) {
				t.Fatalf("%v becomes %v", g, q[0])
			}
			wantSameRun(t, "floats", p, q, 0, []uint64{v, w}, 1, 1)
		}
	}
}
