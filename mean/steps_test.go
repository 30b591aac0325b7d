package mean_test

import (
	"testing"

	"smithy/api"
)

// A run that never calls or loops takes one step, whatever it does.
func TestOneStep(t *testing.T) {
	for _, stmts := range []string{
		"", "return 1;", "print 1; print 2; print 3;", "var a i64 = 1; a = a + a * a - a; return a;", "var l[9] i64; l[1] = 1; print l[0]; return l[1];",
		"if true { if false { print 1; } else if true { print 2; } }", "if p { while true { f(p); } } print p && p || !p;", "print 1 / 0;", times("print 1; ", 500),
	} {
		src := "func f(p bool) i64 { " + stmts + " }"
		trace := ran(t, taken(t, src), 0, []uint64{0}, 1, 1, src)
		if trace.End != api.Told && trace.End != api.Trapped || trace.Steps != 1 || trace.Depth != 1 {
			t.Errorf("%s: %v; want an end with one step", short(src), trace)
		}
		wantRun(t, src, []uint64{0}, 0, 1, outOfSteps(0, 0))
		wantRun(t, src, []uint64{0}, 0, 0, tooDeep(0, 0))
		wantRun(t, src, []uint64{0}, 1, 0, tooDeep(0, 0))
	}
}

// Each look at a while's condition takes a step, the last one too, and nothing else of a loop does.
func TestStepsOfLoops(t *testing.T) {
	const src = "func f(n i64) i64 { var i i64 = 0; while i < n { print i; i = i + 1; } print 99; return i; }"
	for n := range 5 {
		shows := whole(append(upTo(n), 99)...)
		wantRun(t, src, []uint64{uint64(n)}, n+2, 1, told(uint64(n), n+2, 1, shows...))
		wantRun(t, src, []uint64{uint64(n)}, many, many, told(uint64(n), n+2, 1, shows...))
		// One step short of each look.
		for steps := 1; steps < n+2; steps++ {
			wantRun(t, src, []uint64{uint64(n)}, steps, 1, outOfSteps(steps, 1, whole(upTo(steps-1)...)...))
		}
		wantRun(t, src, []uint64{uint64(n)}, 0, 1, outOfSteps(0, 0))
	}
	wantRun(t, "func f() i64 { while true { break; } }", nil, many, 1, told(0, 2, 1))
	wantRun(t, "func f() i64 { var i i64 = 0; while i < 3 { i = i + 1; continue; } }", nil, many, 1, told(0, 5, 1))
	wantRun(t, "func f() i64 { while false {} while false {} while false {} }", nil, many, 1, told(0, 4, 1))
	wantRun(t, "func f() i64 { var i i64 = 0; while i < 2 { var j i64 = 0; while j < 3 { j = j + 1; } i = i + 1; } }", nil, many, 1, told(0, 12, 1))
	wantRun(t, "func f() i64 { while true {} }", nil, 1000, 1, outOfSteps(1000, 1))
	// The condition is not looked at where no step is left.
	wantRun(t, "func f() i64 { while 1 / 0 == 1 {} }", nil, 1, 1, outOfSteps(1, 1))
	wantRun(t, "func f() i64 { while 1 / 0 == 1 {} }", nil, 2, 1, trapped(api.TrapZero, 2, 1))
	wantRun(t, "func f() i64 { while g() {} } func g() bool { print 1; }", nil, 1, 9, outOfSteps(1, 1))
	wantRun(t, "func f() i64 { while g() {} } func g() bool { print 1; }", nil, 2, 9, outOfSteps(2, 1))
	wantRun(t, "func f() i64 { while g() {} } func g() bool { print 1; }", nil, 3, 9, told(0, 3, 2, whole(1)...))
}

// Each call that begins takes a step, the first one too.
func TestStepsOfCalls(t *testing.T) {
	const src = "func f() i64 { print 1; g(2); print 3; return g(4) + g(5); } func g(a i64) i64 { print a; return a; }"
	for steps, want := range []api.Trace{outOfSteps(0, 0), outOfSteps(1, 1, whole(1)...), outOfSteps(2, 2, whole(1, 2, 3)...), outOfSteps(3, 2, whole(1, 2, 3, 4)...), told(9, 4, 2, whole(1, 2, 3, 4, 5)...), told(9, 4, 2, whole(1, 2, 3, 4, 5)...)} {
		wantRun(t, src, nil, steps, 2, want)
		wantRun(t, src, nil, steps, many, want)
	}
	// Arguments have been reckoned, and what they show is shown.
	const outer = "func f() i64 { h(g(1), g(2)); print 9; } func g(a i64) i64 { print a; return a; } func h(a i64, b i64) i64 { print a + b; }"
	for steps, want := range []api.Trace{outOfSteps(0, 0), outOfSteps(1, 1), outOfSteps(2, 2, whole(1)...), outOfSteps(3, 2, whole(1, 2)...), told(0, 4, 2, whole(1, 2, 3, 9)...)} {
		wantRun(t, outer, nil, steps, many, want)
	}
	// A trap in an argument comes ahead of the call.
	wantRun(t, "func f() i64 { return f2(1 / 0); } func f2(a i64) i64 {}", nil, 1, 1, trapped(api.TrapZero, 1, 1))
}

// A call is live from where it begins to where it ends; its arguments are none of it.
func TestDepth(t *testing.T) {
	const down = "func f(a i64) i64 { print a; if a == 0 { return 7; } return f(a - 1); }"
	for a := range 5 {
		var shows []api.Show
		for i := range a + 1 {
			shows = append(shows, whole(a-i)...)
		}
		wantRun(t, down, []uint64{uint64(a)}, many, a+1, told(7, a+1, a+1, shows...))
		wantRun(t, down, []uint64{uint64(a)}, a+1, a+1, told(7, a+1, a+1, shows...))
		for depth := range a + 1 {
			wantRun(t, down, []uint64{uint64(a)}, many, depth, tooDeep(depth, depth, shows[:depth]...))
		}
	}
	// One behind the other they are never more than two at once.
	wantRun(t, "func f() i64 { var i i64 = 0; while i < 9 { g(); i = i + 1; } return g() + g(); } func g() i64 { return 1; }", nil, many, 2, told(2, 22, 2))
	wantRun(t, "func f() i64 { return g(g(g(g(1)))); } func g(a i64) i64 { return a + 1; }", nil, many, 2, told(5, 5, 2))
	// The greatest number at once stays told when they are fewer again.
	wantRun(t, "func f() i64 { g(3); g(1); return g(0); } func g(a i64) i64 { if a > 0 { return g(a - 1); } return 5; }", nil, many, 5, told(5, 8, 5))
	wantRun(t, "func f() i64 { g(3); return 1 / 0; } func g(a i64) i64 { if a > 0 { return g(a - 1); } return 5; }", nil, many, 5, trapped(api.TrapZero, 5, 5))
	// Arguments have been reckoned ahead of a call that is one too many.
	wantRun(t, "func f(a i64) i64 { return f(p(a)); } func p(a i64) i64 { print a; return a + 1; }", []uint64{0}, many, 3, tooDeep(5, 3, whole(0, 1)...))
	wantRun(t, "func f() i64 { g(1 / 0); } func g(a i64) i64 {}", nil, many, 1, trapped(api.TrapZero, 1, 1))
	wantRun(t, "func f() i64 { print 1; g(2); print 3; } func g(a i64) i64 { print a; }", nil, many, 1, tooDeep(1, 1, whole(1)...))
	wantRun(t, "func f() i64 { if false { g(2); } } func g(a i64) i64 {}", nil, many, 1, told(0, 1, 1))
}

// Where neither a step nor a call is left it is Deep.
func TestDeepAheadOfSteps(t *testing.T) {
	const src = "func f() i64 { print 1; g(); } func g() i64 { print 2; }"
	wantRun(t, src, nil, 0, 0, tooDeep(0, 0))
	wantRun(t, src, nil, 0, 1, outOfSteps(0, 0))
	wantRun(t, src, nil, 1, 0, tooDeep(0, 0))
	wantRun(t, src, nil, 1, 1, tooDeep(1, 1, whole(1)...))
	wantRun(t, src, nil, 1, 2, outOfSteps(1, 1, whole(1)...))
	wantRun(t, src, nil, 2, 1, tooDeep(1, 1, whole(1)...))
	wantRun(t, src, nil, 2, 2, told(0, 2, 2, whole(1, 2)...))
	// A loop is asked for no depth.
	wantRun(t, "func f() i64 { while true {} }", nil, 1, 1, outOfSteps(1, 1))
	const endless = "func f(a i64) i64 { return f(a + 1); }"
	for steps := range 6 {
		for depth := range 6 {
			want := outOfSteps(steps, steps)
			if depth <= steps {
				want = tooDeep(depth, depth)
			}
			wantRun(t, endless, []uint64{0}, steps, depth, want)
		}
	}
}
