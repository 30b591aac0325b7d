package gvn_test

import (
	"testing"

	"smithy/api"
	"smithy/lower"
	"smithy/run"
	"smithy/ssa"
	"smithy/syntax"
)

// built is a source as a program, each of whose graphs is set once.
func built(t *testing.T, source string) []api.Graph {
	t.Helper()
	tree, fault := syntax.Parse(source)
	if fault.Err != api.OK {
		t.Fatalf("%s: Parse tells %v", source, fault)
	}
	p, e := lower.Lower(tree)
	if e != api.OK {
		t.Fatalf("%s: Lower tells %d", source, e)
	}
	for f := range p {
		g, e := ssa.Build(p, f)
		if e != api.OK {
			t.Fatalf("%s: Build tells %d of %d", source, e, f)
		}
		p[f] = g
	}
	return p
}

// sources are such that much of them is reckoned twice; what is printed stands ahead of what goes, and behind it.
var sources = []string{
	"func f(n i64) i64 { var a i64 = n * 3 + 1; print a; var b i64 = 1 + 3 * n; print b; if a == b { print n; } else { return 7 / n; } return 100 / (a - b + n); }",
	"func f(n i64) i64 { var i i64 = 0; while i < n * n { print i + n; i = n + i - n + 1; print n * n; } return 12 % (n - 3) + 12 % (n - 3); }",
	"func f(n i64) i64 { if n < 2 { return n; } return f(n - 1) + f(n - 2); }",
	"func f(n i64) i64 { print n; if n - 1 < 0 { return g(n - 1) + g(n - 1); } return f(n - 1); } func g(n i64) i64 { if n == 0 - 1 { print 0 - 1; return f(n - 1); } return 0 - 1; }",
	"func f(n i64) i64 { var a[3] i64; a[n] = n + 1; print a[n]; a[n] = a[n] + a[n]; print a[n]; a[1] = n + 1; var b[3] i64; b[0] = a[n] + a[n]; return a[n] * b[0] + a[1] / a[0]; }",
	"func f(n i64) i64 { var x f64 = f64(n); print x * x; print x / x; print -x + x; print f64(n) * f64(n); print -x + f64(n); if x / x != x / x { return i64(x / x); } return i64(x * x) + i64(x * x); }",
	"func f(n i64) i64 { var a i64 = n; var b i64 = a; var c i64 = b; while c < 5 { print a; print b; c = c + 1; b = c; if b == a + 1 { a = b; } else { continue; } print c + 1; } return c / (b - a); }",
	"func f(n i64) i64 { var k bool = n > 1; if k && n > 1 || !k && 1 < n { print u8(n); return i64(g(u8(n), u8(n) + u8(n))); } return i64(g(u8(n) + u8(n), u8(n))); } func g(b u8, c u8) u8 { print b + c; print c + b; print b - c; print c - b; if b + c == c + b { return (b + c) / c; } return b / b; }",
	"func f(n i64) i64 { print n; print n + 1; return f(n + 1); }",
	"func f(n i64) i64 { while n == n { print n + n; n = n + 1; print n - 1 + (n - 1); } return 5; }",
}

// Runs are the same, cut off at each step and at each depth, with one graph told and with all of them.
func TestRunsCutOffAnywhere(t *testing.T) {
	count := map[api.End]int{}
	gone := 0
	for _, source := range sources {
		p := built(t, source)
		all := p
		programs := [][]api.Graph{}
		for f := range p {
			g := wantKept(t, source, p, f)
			gone += countAll(p[f]) - countAll(g)
			programs = append(programs, with(p, f, g))
			all = with(all, f, wantKept(t, source, all, f))
		}
		for _, q := range append(programs, all) {
			for _, n := range []int64{-1, 0, 1, 2, 3, 6} {
				for depth := range 8 {
					for steps := range 40 {
						count[wantSameRun(t, source, p, q, 0, []uint64{whole(n)}, steps, depth).End]++
					}
					count[wantSameRun(t, source, p, q, 0, []uint64{whole(n)}, 1000, depth).End]++
				}
			}
		}
	}
	for _, end := range []api.End{api.Told, api.Trapped, api.Steps, api.Deep} {
		if count[end] < 500 {
			t.Errorf("%d ended with %d", count[end], end)
		}
	}
	if gone < 60 {
		t.Errorf("%d instructions have gone", gone)
	}
}

// countAll is how many instructions a graph has.
func countAll(g api.Graph) int {
	n := 0
	for _, b := range g.Blocks {
		n += len(b.Ins)
	}
	return n
}

// Steps and Depth of runs that end, and of those that have one too few.
func TestStepsAndDepth(t *testing.T) {
	p := built(t, sources[2])
	q := alone(wantKept(t, "calls of itself", p, 0))
	for n := range uint64(8) {
		a := wantSameRun(t, "calls of itself", p, q, 0, []uint64{n}, 10000, 100)
		if a.End != api.Told {
			t.Fatalf("of %d: %v", n, a)
		}
		b := wantSameRun(t, "just as many steps", p, q, 0, []uint64{n}, a.Steps, a.Depth)
		c := wantSameRun(t, "a step too few", p, q, 0, []uint64{n}, a.Steps-1, a.Depth)
		d := wantSameRun(t, "a call too many", p, q, 0, []uint64{n}, a.Steps, a.Depth-1)
		if b.End != api.Told || c.End != api.Steps || d.End != api.Deep {
			t.Errorf("of %d: %v, %v, %v", n, b, c, d)
		}
	}
}

// The graph stands beside one that calls it and one that it calls, with parameters of all types in no order; both go on calling.
func TestBesideCallersAndCallees(t *testing.T) {
	caller := api.Graph{Name: "caller", Params: row(0), Result: api.F64, Vars: []api.Type{api.I64, api.Bool, api.U8, api.I32, api.F64, api.F64, api.I64, api.F64}, Blocks: []api.Block{
		block(back(7), op(api.OpLt, 1, 0, 0), cast(2, 0), cast(3, 0), cast(4, 0), call(1, 5, 4, 2, 1, 0, 3), copyOf(6, 0), call(1, 7, 4, 2, 1, 6, 3), show(5), show(7)),
	}}
	// 0 to 4: the parameters, 5 and 6: alike, 7: what is called tells, 8 and 9: copies, 10: the phi of these.
	middle := api.Graph{Name: "middle", Params: row(4, 1, 0, 3, 2), Result: api.F64, Vars: []api.Type{api.Bool, api.U8, api.I32, api.I64, api.F64, api.Bool, api.Bool, api.I64, api.I64, api.I64, api.I64, api.I64},
		Arrays: []api.Array{{Type: api.U8, Size: 2}, {Type: api.F64, Size: 9}}, Blocks: []api.Block{
			block(branch(6, 2, 1), op(api.OpLe, 5, 1, 1), op(api.OpLe, 6, 1, 1), show(0), show(1), show(2), show(3), show(4)),
			block(jump(3), copyOf(8, 3)),
			block(jump(3), call(2, 7, 3, 0), copyOf(9, 7), call(2, 11, 3, 6), store(0, 3, 1)),
			block(branch(5, 5, 4), phi(10, 8, 9), show(10)),
			block(trap(3)),
			block(back(4), show(4)),
		}}
	callee := api.Graph{Name: "callee", Params: row(1, 0), Result: api.I64, Vars: []api.Type{api.Bool, api.I64, api.I64, api.Bool, api.I64}, Blocks: []api.Block{
		block(branch(3, 1, 2), op(api.OpXor, 2, 1, 1), op(api.OpEq, 3, 1, 2), copyOf(4, 2)),
		block(trap(1), show(4)),
		block(back(4), show(1), show(0)),
	}}
	p := []api.Graph{caller, middle, callee}
	all := p
	for f := range p {
		all = with(all, f, wantKept(t, "one of three", p, f))
	}
	ends := map[api.End]int{}
	for _, q := range [][]api.Graph{all, with(p, 0, all[0]), with(p, 1, all[1]), with(p, 2, all[2])} {
		for _, n := range []int64{0, 1, -5, 300} {
			for steps := range 20 {
				for depth := range 5 {
					ends[wantSameRun(t, "one of three", p, q, 0, []uint64{whole(n)}, steps, depth).End]++
				}
			}
		}
	}
	if countAll(all[0]) != 8 || countAll(all[1]) != 12 || countAll(all[2]) != 5 {
		t.Errorf("%v", all)
	}
	for _, end := range []api.End{api.Told, api.Trapped, api.Steps, api.Deep} {
		if ends[end] < 20 {
			t.Errorf("%v", ends)
		}
	}
}

// A graph that calls itself with what it reckons twice, deeper than may be.
func TestCallsOfItself(t *testing.T) {
	const n, one, zero, is, less, rest, again, same = 0, 1, 2, 3, 4, 5, 6, 7
	g := graphOf(api.I64, 1, 8,
		block(branch(is, 1, 2), number(one, 1), number(zero, 0), op(api.OpEq, is, n, zero), show(n)),
		block(back(zero)),
		block(back(rest), op(api.OpSub, less, n, one), call(0, rest, less), number(again, 1), op(api.OpSub, same, n, again), show(same), show(rest)),
	)
	g.Vars[is] = api.Bool
	p := alone(g)
	q := alone(wantKept(t, "calls of itself", p, 0))
	if countAll(q[0]) != countAll(g)-2 {
		t.Errorf("%v", q)
	}
	ends := map[api.End]int{}
	for n := range uint64(6) {
		for steps := range 25 {
			for depth := range 8 {
				ends[wantSameRun(t, "calls of itself", p, q, 0, []uint64{n}, steps, depth).End]++
			}
		}
	}
	if ends[api.Told] < 50 || ends[api.Deep] < 50 || ends[api.Steps] < 50 {
		t.Errorf("%v", ends)
	}
}

// What an array holds may have changed between two loads, by a store, a clear, or the time round a loop.
func TestLoadsStayApart(t *testing.T) {
	const n, i, one, element, next, was, is = 0, 1, 2, 3, 4, 5, 6
	g := graphOf(api.I64, 1, 9,
		block(jump(1), number(one, 1), load(was, 0, n), store(0, n, one), load(7, 0, n), show(was), show(7)),
		block(branch(is, 1, 2), phi(i, one, next), load(element, 0, one), op(api.OpAdd, next, element, i), store(0, one, next), op(api.OpLt, is, next, n), show(element)),
		block(back(8), wipe(0), load(8, 0, one), show(8)),
	)
	g.Vars[is], g.Arrays = api.Bool, []api.Array{{Type: api.I64, Size: 4}}
	wantBecome(t, "loads, and what changes them", g, g.Blocks...)
	for n := range uint64(6) {
		if trace, e := run.Run(alone(g), 0, []uint64{n}, 50, 1); e != api.OK || trace.End != api.Told || trace.Value != 0 {
			t.Errorf("%v, %d", trace, e)
		}
	}
}
