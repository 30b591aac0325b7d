package tidy_test

import (
	"testing"

	"smithy/api"
	"smithy/dce"
	"smithy/fold"
	"smithy/gvn"
	"smithy/lower"
	"smithy/run"
	"smithy/sccp"
	"smithy/ssa"
	"smithy/syntax"
)

// lowered is a source as a program.
func lowered(t *testing.T, source string) []api.Graph {
	t.Helper()
	tree, fault := syntax.Parse(source)
	if fault.Err != api.OK {
		t.Fatalf("%s: Parse tells %v", source, fault)
	}
	p, e := lower.Lower(tree)
	if e != api.OK {
		t.Fatalf("%s: Lower tells %d", source, e)
	}
	return p
}

// built is a source as a program each of whose graphs is set once.
func built(t *testing.T, source string) []api.Graph {
	t.Helper()
	p := lowered(t, source)
	for f := range p {
		g, e := ssa.Build(p, f)
		if e != api.OK {
			t.Fatalf("%s: Build tells %d of %d", source, e, f)
		}
		p[f] = g
	}
	return p
}

// passed is a program behind the passes that come ahead of this one.
func passed(t *testing.T, p []api.Graph) []api.Graph {
	t.Helper()
	for f := range p {
		facts, e := sccp.Solve(p, f)
		folded, d := fold.Apply(p, f, facts)
		p = with(p, f, folded)
		once, c := gvn.Apply(p, f)
		p = with(p, f, once)
		asked, b := dce.Apply(p, f)
		p = with(p, f, asked)
		if e != api.OK || d != api.OK || c != api.OK || b != api.OK {
			t.Fatalf("%v, %d: %d, %d, %d, %d", p, f, e, d, c, b)
		}
	}
	return p
}

// sources have blocks that only lead on, choices of nothing, ways that are left and gone on with; what they print tells which way a run went.
var sources = []string{
	"func f(n i64) i64 { if n > 1 { } else { } if n > 2 { if n > 3 { } } print n; if n == 2 { return 7 / (n - 2); } return n; }",
	"func f(n i64) i64 { var i i64 = 0; var s i64 = 0; while i < n * n { i = i + 1; if i == 3 { continue; } if i > 7 { break; } if s > i { } else { s = s + i; } print s; } return 12 % (n - 3); }",
	"func f(n i64) i64 { if n < 2 { return n; } return f(n - 1) + f(n - 2); }",
	"func f(n i64) i64 { print n; if n - 1 < 0 { return g(n - 1); } else { if n > 90 { } } return f(n - 1); } func g(n i64) i64 { if n == 0 - 1 { print 0 - 1; return f(n - 1); } while n < 0 - 1 { n = n + 1; } return n; }",
	"func f(n i64) i64 { var a[3] i64; a[n] = n + 1; print a[n]; if a[n] > 1 { a[1] = a[n]; } else { if n == 0 { a[1] = 5; } } return 8 / a[1]; }",
	"func f(n i64) i64 { var x f64 = f64(n); while x < 3.0 { if x < 1.0 { x = x + 1.0; continue; } if x == 2.0 { break; } x = x + 0.5; print x; } if x / x != x / x { return i64(x / x); } return i64(x * x); }",
	"func f(n i64) i64 { var a i64 = n; var b i64 = 0; while b < 5 { while a < b { a = a + 1; if a == 3 { break; } } b = b + 1; if b == 3 { } else { if a == b { continue; } print a; } print b; } return b / (5 - a); }",
	"func f(n i64) i64 { var k bool = n > 1 && n < 4 || n == 0; if k && n < 3 || !k && 1 < n { print k; } if (k || n > 4) == (n > 2 && k) { return g(k, n > 1 || k); } return g(n < 2 && !k, k); } func g(b bool, c bool) i64 { while b && c { b = !c; } print b || c; if b == c && b != c || b { return 1; } return 0; }",
	"func f(n i64) i64 { print n; n = n + 1; if n > 0 { } return f(n); }",
	"func f(n i64) i64 { while n == n { if n > 3 { n = 0; } else { n = n + 1; } print n; } return 5; }",
	"func f(n i64) i64 { while true { if n > 3 { } else { while n < 3 { n = n + 1; } } } return 5; }",
	"func f(n i64) i64 { if n > 3 { while true { } } else { if n < 1 { while true { if n < 0 { continue; } } } } return n; }",
}

// Runs are kept, cut off at each step and at each depth, with one graph told and with all of them; ahead of other passes, and behind them.
func TestRunsCutOffAnywhere(t *testing.T) {
	count := map[api.End]int{}
	fewer, steps := 0, 0
	for _, source := range sources {
		once := built(t, source)
		for _, p := range [][]api.Graph{once, passed(t, once)} {
			all := p
			programs := [][]api.Graph{}
			for f := range p {
				g := wantKept(t, source, p, f)
				fewer += len(p[f].Blocks) - len(g.Blocks)
				programs = append(programs, with(p, f, g))
				all = with(all, f, wantKept(t, source, all, f))
			}
			for _, q := range append(programs, all) {
				for _, n := range []int64{-1, 0, 1, 2, 3, 6} {
					for depth := range 8 {
						for limit := range 60 {
							a, _ := wantNoMore(t, source, p, q, 0, []uint64{whole(n)}, limit, depth)
							count[a.End]++
						}
						if a, b := wantNoMore(t, source, p, q, 0, []uint64{whole(n)}, 1000, depth); a.End == api.Told || a.End == api.Trapped {
							steps += a.Steps - b.Steps
						}
					}
				}
			}
		}
	}
	for _, end := range []api.End{api.Told, api.Trapped, api.Steps, api.Deep} {
		if count[end] < 500 {
			t.Errorf("%d ended with %d", count[end], end)
		}
	}
	if fewer < 60 || steps < 2000 {
		t.Errorf("%d blocks fewer, %d steps fewer", fewer, steps)
	}
}

// Steps and Depth of runs that end, given just as many, and fewer.
func TestStepsAndDepth(t *testing.T) {
	p := built(t, sources[2])
	q := alone(wantKept(t, "calls of itself", p, 0))
	for n := range uint64(8) {
		a, b := wantNoMore(t, "calls of itself", p, q, 0, []uint64{n}, 10000, 100)
		if a.End != api.Told || b.End != api.Told || a.Depth != b.Depth {
			t.Fatalf("of %d: %v, %v", n, a, b)
		}
		_, just := wantNoMore(t, "just as many steps", p, q, 0, []uint64{n}, b.Steps, b.Depth)
		_, few := wantNoMore(t, "a step too few", p, q, 0, []uint64{n}, b.Steps-1, b.Depth)
		_, deep := wantNoMore(t, "a call too many", p, q, 0, []uint64{n}, a.Steps, a.Depth-1)
		if just.End != api.Told || few.End != api.Steps || deep.End != api.Deep {
			t.Errorf("of %d: %v, %v, %v", n, just, few, deep)
		}
	}
}

// The graph stands beside one that calls it and one that it calls, with parameters of all types in no order; both go on calling.
func TestBesideCallersAndCallees(t *testing.T) {
	caller := api.Graph{Name: "caller", Params: row(0), Result: api.F64, Vars: []api.Type{api.I64, api.Bool, api.U8, api.I32, api.F64, api.F64, api.I64, api.F64}, Blocks: []api.Block{
		block(jump(2), op(api.OpLt, 1, 0, 0), cast(2, 0), cast(3, 0), cast(4, 0), call(1, 5, 4, 2, 1, 0, 3)),
		block(back(7), call(1, 7, 4, 2, 1, 6, 3), show(5), show(7)),
		block(branch(1, 3, 3), copyOf(6, 0)),
		block(jump(1)),
	}}
	// 0 to 4: the parameters, 5: a choice, 6: what is called tells, 7: a phi, 8: another one, of one argument.
	middle := api.Graph{Name: "middle", Params: row(4, 1, 0, 3, 2), Result: api.F64, Vars: []api.Type{api.Bool, api.U8, api.I32, api.I64, api.F64, api.Bool, api.I64, api.I64, api.I64},
		Arrays: []api.Array{{Type: api.U8, Size: 2}, {Type: api.F64, Size: 9}}, Blocks: []api.Block{
			block(branch(5, 2, 1), op(api.OpLe, 5, 1, 1), show(0), show(1), show(2), show(3), show(4)),
			block(jump(6)),
			block(jump(3), call(2, 6, 3, 0), store(0, 3, 1)),
			block(jump(6), phi(8, 6), show(8)),
			block(trap(3)),
			block(back(4), show(4)),
			block(branch(5, 7, 8), phi(7, 3, 8), show(7)),
			block(jump(5)),
			block(jump(4)),
		}}
	callee := api.Graph{Name: "callee", Params: row(1, 0), Result: api.I64, Vars: []api.Type{api.Bool, api.I64, api.I64, api.Bool}, Blocks: []api.Block{
		block(branch(3, 1, 2), op(api.OpXor, 2, 1, 1), op(api.OpEq, 3, 1, 2)),
		block(jump(3), show(1)),
		block(jump(4)),
		block(trap(1), show(2)),
		block(back(2), show(1), show(0)),
	}}
	p := []api.Graph{caller, middle, callee}
	all := p
	for f := range p {
		all = with(all, f, wantKept(t, "one of three", p, f))
	}
	if len(all[0].Blocks) != 1 || len(all[1].Blocks) != 5 || len(all[2].Blocks) != 3 {
		t.Errorf("%v", all)
	}
	ends := map[api.End]int{}
	for _, q := range [][]api.Graph{all, with(p, 0, all[0]), with(p, 1, all[1]), with(p, 2, all[2])} {
		for _, n := range []int64{0, 1, -5, 300} {
			for steps := range 30 {
				for depth := range 5 {
					a, _ := wantNoMore(t, "one of three", p, q, 0, []uint64{whole(n)}, steps, depth)
					ends[a.End]++
				}
			}
		}
	}
	for _, end := range []api.End{api.Told, api.Trapped, api.Steps, api.Deep} {
		if ends[end] < 20 {
			t.Errorf("%v", ends)
		}
	}
}

// A graph that calls itself from a block that goes, deeper than may be.
func TestCallsOfItself(t *testing.T) {
	const n, one, zero, is, less, rest = 0, 1, 2, 3, 4, 5
	g := graphOf(api.I64, 1, 6,
		block(jump(1), number(one, 1), number(zero, 0)),
		block(branch(is, 2, 3), op(api.OpEq, is, n, zero), show(n)),
		block(jump(5)),
		block(jump(4), op(api.OpSub, less, n, one)),
		block(back(rest), call(0, rest, less), show(rest), show(n)),
		block(back(zero)),
	)
	g.Vars[is] = api.Bool
	p := alone(g)
	q := alone(wantKept(t, "calls of itself", p, 0))
	if len(q[0].Blocks) != 3 {
		t.Errorf("%v", q)
	}
	ends := map[api.End]int{}
	for n := range uint64(6) {
		for steps := range 40 {
			for depth := range 8 {
				a, b := wantNoMore(t, "calls of itself", p, q, 0, []uint64{n}, steps, depth)
				ends[a.End]++
				// Each call takes two steps now, where it took four.
				if a.End == api.Told && (b.Steps != 2*int(n+1) || b.Depth != int(n+1)) {
					t.Errorf("of %d: %v, %v", n, a, b)
				}
			}
		}
	}
	if ends[api.Told] < 50 || ends[api.Deep] < 50 || ends[api.Steps] < 50 {
		t.Errorf("%v", ends)
	}
}

// What never ends goes on for ever, showing at least as much.
func TestRunsThatNeverEnd(t *testing.T) {
	for what, g := range map[string]api.Graph{
		"nothing at all":       truths(1, 1, block(jump(1)), block(jump(2)), block(jump(3)), block(jump(1))),
		"a choice of nothing":  truths(1, 1, block(jump(1)), block(branch(0, 2, 3)), block(jump(1)), block(jump(1))),
		"a show each time":     truths(1, 1, block(jump(1)), block(branch(0, 2, 3), show(0)), block(jump(4)), block(jump(4)), block(jump(1))),
		"a show ahead":         truths(1, 1, block(jump(1), show(0)), block(branch(0, 2, 3)), block(jump(4)), block(jump(4)), block(jump(1))),
		"two circles of empty": truths(1, 1, block(branch(0, 1, 3), show(0)), block(jump(2)), block(jump(1)), block(jump(4)), block(jump(3))),
		"a phi that turns":     truths(2, 4, block(jump(1)), block(jump(2), phi(2, 0, 3), phi(3, 1, 2), show(2)), block(branch(2, 3, 4)), block(jump(4)), block(jump(1))),
	} {
		h := wantKept(t, what, alone(g), 0)
		for seed := range uint64(4) {
			for steps := range 50 {
				a, b := wantNoMore(t, what, alone(g), alone(h), 0, wordsFor(g, seed), steps, 1)
				if a.End != api.Steps || b.End != api.Steps || a.Steps != steps || b.Steps != steps {
					t.Errorf("%s with %d steps: %v, %v", what, steps, a, b)
				}
			}
		}
	}
}

// What an array holds is there for what becomes one block with what put it there, and anew in each call.
func TestArrays(t *testing.T) {
	const at, one, was, is = 0, 1, 2, 3
	g := graphOf(api.I64, 1, 6,
		block(jump(1), number(one, 1), load(was, 0, at), show(was)),
		block(jump(2), store(0, at, one)),
		block(jump(3), load(is, 0, at), show(is)),
		block(jump(4), wipe(0)),
		block(back(4), load(4, 0, at), call(1, 5, at), show(5)),
	)
	callee := graphOf(api.I64, 1, 3, block(jump(1), load(1, 0, 0)), block(back(1), store(0, 0, 0), load(2, 0, 0), show(2)))
	g.Arrays = []api.Array{{Type: api.I64, Size: 4}}
	callee.Arrays = g.Arrays
	p := []api.Graph{g, callee}
	for f := range p {
		h := wantKept(t, "arrays", p, f)
		if len(h.Blocks) != 1 {
			t.Errorf("%v becomes %v", p[f], h)
		}
		for n := range uint64(6) {
			trace, e := run.Run(with(p, f, h), 0, []uint64{n}, 50, 2)
			if e != api.OK || trace.End != api.Told || trace.Value != 0 || len(trace.Shows) != 4 {
				t.Errorf("%v, %d", trace, e)
			}
		}
	}
}
