package fold_test

import (
	"testing"

	"smithy/api"
	"smithy/lower"
	"smithy/run"
	"smithy/ssa"
	"smithy/syntax"
)

// built is a source as a program, each of whose graphs is set once.
func built(t *testing.T, source string) []api.Graph {
	t.Helper()
	tree, fault := syntax.Parse(source)
	if fault.Err != api.OK {
		t.Fatalf("%s: Parse tells %v", source, fault)
	}
	p, e := lower.Lower(tree)
	if e != api.OK {
		t.Fatalf("%s: Lower tells %d", source, e)
	}
	for f := range p {
		g, e := ssa.Build(p, f)
		if e != api.OK {
			t.Fatalf("%s: Build tells %d of %d", source, e, f)
		}
		p[f] = g
	}
	return p
}

// sources are such that much of them is known; what is printed stands ahead of what goes, and behind it.
var sources = []string{
	"func f(n i64) i64 { var k i64 = 2; print k; if k * 3 == 6 { print n; } else { print 7; return 7 / n; } return k + n; }",
	"func f(n i64) i64 { var d i64 = 3; print n; if d == 4 { d = 0; print d; } print 12 / d; return 12 / (d - 3) + n; }",
	"func f(n i64) i64 { var i i64 = 0; var five i64 = 5; while i < n { print five; five = five * 1; i = i + 1; } return 7 % (i - 3) + five; }",
	"func f(n i64) i64 { if n < 2 { return n; } if 1 < 0 { print n; } return f(n - 1) + f(n - 2); }",
	"func f(n i64) i64 { if false { return f(n); } if n == 0 { print 1.5; return g(3); } print true; return f(n - 1); } func g(n i64) i64 { var z i64 = 1 - 1; if z == 0 { return f(n - 1) + 1; } print n; return 0; }",
	"func f(n i64) i64 { while true { print n; if n > 100 { break; } n = n * 2 + 1; } return n; }",
	"func f(n i64) i64 { var a[3] i64; a[0] = 2; a[a[0] - 1] = n; print a[1]; var k i64 = 1; print a[k + 1]; if k == 1 { return a[n]; } return a[k]; }",
	"func f(n i64) i64 { var x f64 = 0.0; x = -x; print x; print x / x; print u8(255.0 + 0.5); if x == 0.0 { return i64(f64(n) / x); } return 3; }",
	"func f(n i64) i64 { var k bool = true; if k && n > 1 || !k { print g(3u8); return f(n - 1); } return i64(g(u8(n))); } func g(b u8) u8 { var c u8 = 200u8; c = c + 100u8; print c; while c != 44u8 { print b; c = b; } if b == 0u8 { return c / b; } return b - 1u8; }",
	"func f(n i64) i64 { print n; return f(n + 1); }",
	"func f(n i64) i64 { while 1 == 1 { print n; n = n + 1; } return 5; }",
}

// Runs are kept, in no more steps, cut off at each step and at each depth, with one graph folded and with all of them.
func TestRunsCutOffAnywhere(t *testing.T) {
	count := map[api.End]int{}
	gone := 0
	for _, source := range sources {
		p := built(t, source)
		all := p
		programs := [][]api.Graph{}
		for f := range p {
			g := wantFolded(t, source, p, f)
			gone += len(p[f].Blocks) - len(g.Blocks)
			programs = append(programs, with(p, f, g))
			all = with(all, f, wantFolded(t, source, all, f))
		}
		for _, q := range append(programs, all) {
			for _, n := range []int64{-1, 0, 1, 2, 3, 6} {
				for depth := range 8 {
					for steps := range 40 {
						count[wantKeptRun(t, source, p, q, 0, []uint64{whole(n)}, steps, depth).End]++
					}
					count[wantKeptRun(t, source, p, q, 0, []uint64{whole(n)}, 1000, depth).End]++
				}
			}
		}
	}
	for _, end := range []api.End{api.Told, api.Trapped, api.Steps, api.Deep} {
		if count[end] < 500 {
			t.Errorf("%d ended with %d", count[end], end)
		}
	}
	if gone < 10 {
		t.Errorf("%d blocks have gone", gone)
	}
}

// Steps and Depth of runs that end: told as they were, or fewer steps.
func TestStepsAndDepth(t *testing.T) {
	p := built(t, sources[3])
	q := alone(wantFolded(t, "calls of itself", p, 0))
	for n := range uint64(8) {
		a, _ := run.Run(p, 0, []uint64{n}, 10000, 100)
		b, e := run.Run(q, 0, []uint64{n}, a.Steps, a.Depth)
		if e != api.OK || a.End != api.Told || b.End != api.Told || a.Value != b.Value || b.Depth != a.Depth || b.Steps > a.Steps {
			t.Errorf("of %d: %v, %d; it was %v", n, b, e, a)
		}
		// One call too many is one too many still.
		a, _ = run.Run(p, 0, []uint64{n}, 10000, a.Depth-1)
		if b, _ := run.Run(q, 0, []uint64{n}, 10000, a.Depth); a.End != api.Deep || b.End != api.Deep {
			t.Errorf("of %d, with a depth of %d: %v; it was %v", n, a.Depth, b, a)
		}
	}
}

// The graph stands beside one that calls it and one that it calls, with parameters of all types in no order; both go on calling.
func TestBesideCallersAndCallees(t *testing.T) {
	caller := api.Graph{Name: "caller", Params: row(0), Result: api.F64, Vars: []api.Type{api.I64, api.Bool, api.U8, api.I32, api.F64, api.F64}, Blocks: []api.Block{
		block(back(5), op(api.OpLt, 1, 0, 0), cast(2, 0), cast(3, 0), cast(4, 0), call(1, 5, 4, 2, 1, 0, 3), show(5)),
	}}
	// 0 to 4: the parameters, 5: true, 6: a float, 7: what is called tells, 8 and 9: what two ways hand on of which one goes, 10: the phi of these.
	middle := api.Graph{Name: "middle", Params: row(4, 1, 0, 3, 2), Result: api.F64, Vars: []api.Type{api.Bool, api.U8, api.I32, api.I64, api.F64, api.Bool, api.F64, api.I64, api.I64, api.I64, api.I64},
		Arrays: []api.Array{{Type: api.U8, Size: 2}, {Type: api.F64, Size: 9}}, Blocks: []api.Block{
			block(branch(5, 2, 1), number(5, 1), number(6, 1<<63), show(0), show(1), show(2), show(3), show(4)),
			block(jump(3), copyOf(8, 3)),
			block(jump(3), call(2, 7, 3, 0), copyOf(9, 7), store(0, 3, 1)),
			block(branch(0, 4, 5), phi(10, 8, 9), show(10)),
			block(trap(3)),
			block(back(6), show(6)),
		}}
	callee := api.Graph{Name: "callee", Params: row(1, 0), Result: api.I64, Vars: []api.Type{api.Bool, api.I64, api.I64, api.Bool}, Blocks: []api.Block{
		block(branch(3, 1, 2), op(api.OpXor, 2, 1, 1), number(3, 0)),
		block(trap(1)),
		block(back(1), show(1), show(0)),
	}}
	p := []api.Graph{caller, middle, callee}
	all := p
	for f := range p {
		all = with(all, f, wantFolded(t, "one of three", p, f))
	}
	for _, q := range [][]api.Graph{all, with(p, 1, all[1]), with(p, 2, all[2])} {
		for _, n := range []int64{0, 1, -5, 300} {
			for steps := range 9 {
				for depth := range 5 {
					wantKeptRun(t, "one of three", p, q, 0, []uint64{whole(n)}, steps, depth)
				}
			}
		}
	}
	if len(all[1].Blocks) != 5 || len(all[2].Blocks) != 2 || len(all[0].Blocks) != 1 {
		t.Errorf("%v", all)
	}
	trace, e := run.Run(all, 0, []uint64{4}, 9, 3)
	if e != api.OK || trace.End != api.Told || trace.Depth != 3 || len(trace.Shows) != 10 {
		t.Errorf("%v, %d", trace, e)
	}
}

// A graph that calls itself with what is known, deeper than may be.
func TestCallsOfItself(t *testing.T) {
	const n, one, zero, is, less, rest, never, idle = 0, 1, 2, 3, 4, 5, 6, 7
	g := graphOf(api.I64, 1, 8,
		block(branch(never, 1, 2), number(one, 1), number(zero, 0), op(api.OpEq, never, one, zero), show(n)),
		block(back(idle), call(0, idle, one)),
		block(branch(is, 3, 4), op(api.OpEq, is, n, zero)),
		block(back(zero)),
		block(back(rest), op(api.OpSub, less, n, one), call(0, rest, less), show(rest)),
	)
	g.Vars[is], g.Vars[never] = api.Bool, api.Bool
	p := alone(g)
	q := alone(wantFolded(t, "calls of itself", p, 0))
	if len(q[0].Blocks) != 4 {
		t.Errorf("%v", q)
	}
	ends := map[api.End]int{}
	for n := range uint64(6) {
		for steps := range 25 {
			for depth := range 8 {
				ends[wantKeptRun(t, "calls of itself", p, q, 0, []uint64{n}, steps, depth).End]++
			}
		}
	}
	if ends[api.Told] < 50 || ends[api.Deep] < 50 || ends[api.Steps] < 50 {
		t.Errorf("%v", ends)
	}
}
