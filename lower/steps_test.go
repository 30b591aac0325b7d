package lower_test

import (
	"testing"

	"smithy/api"
)

// A source whose run never calls or loops takes no more steps than its graph has blocks; each look at a condition, and each call, lets it take as many again.
func TestStepsAreEnough(t *testing.T) {
	for _, c := range []struct {
		src  string
		args []uint64
	}{
		{"func f(a i64) i64 { if a > 1 { print 1 / a; } else { print 2 % a; } return 7 / a + 8 / a; }", []uint64{1}},
		{"func f(a i64) i64 { while a > 0 && 100 / a > 0 { a = a - 1; } return a; }", []uint64{30}},
		{"func f(a i64) i64 { while true { while a % 3 != 0 { a = a - 1; if a % 2 == 0 { continue; } if a < 0 { return a; } } a = a - 1; if a < 1 { break; } } return a; }", []uint64{30}},
		{"func f(a i64) i64 { while g(a) { a = a - 1; } return a; } func g(a i64) bool { var l[9] i64; var i i64 = 0; while i < 9 { l[i] = a / (i + 1); i = i + 1; } return l[a % 9] > 0; }", []uint64{30}},
		{"func f(n i64) i64 { if n < 2 { return n; } return f(n - 1) + f(n - 2); }", []uint64{12}},
		{"func f(n i64) i64 { while n > 0 { n = n - 1; while n % 2 == 0 { break; } while n % 3 == 0 { break; } } }", []uint64{20}},
	} {
		p := programOf(t, c.src, c.args...)
		meaning, done := p.wantKept(t, many, many)
		if !ends(meaning) || done.Steps > meaning.Steps*most(p.graphs) {
			t.Errorf("%s: %v, of its graphs %v", c.src, meaning, done)
		}
		for steps := range min(meaning.Steps+2, 60) {
			for depth := range min(meaning.Depth+2, 6) {
				p.wantKept(t, steps, depth)
			}
		}
	}
}

// Calls live in one another as in the source; one too many is one too many of the graphs.
func TestDepth(t *testing.T) {
	const down = "func f(a i64) i64 { print a; if a == 0 { return 7; } return f(a - 1); }"
	for a := range 5 {
		p := programOf(t, down, uint64(a))
		for depth := range a + 3 {
			meaning, done := p.wantKept(t, many, depth)
			if deep := depth <= a; deep != (meaning.End == api.Deep) || deep != (done.End == api.Deep) || done.Depth != meaning.Depth || len(done.Shows) != min(depth, a+1) {
				t.Errorf("%s of %d, depth %d: %v, of its graphs %v", down, a, depth, meaning, done)
			}
			p.wantCut(t, 30, depth)
		}
	}
	// Arguments have been reckoned ahead of a call that is one too many.
	p := programOf(t, "func f(a i64) i64 { return f(p(a)); } func p(a i64) i64 { print a; return a + 1; }", 0)
	if _, done := p.wantKept(t, many, 3); done.End != api.Deep || len(done.Shows) != 2 {
		t.Errorf("%v", done)
	}
	wantRun(t, "func f() i64 { var i i64 = 0; while i < 9 { g(); i = i + 1; } return g() + g(); } func g() i64 { return 1; }", nil, told(2, 2))
	wantRun(t, "func f() i64 { g(3); g(1); return g(0); } func g(a i64) i64 { if a > 0 { return g(a - 1); } return 5; }", nil, told(5, 5))
	wantRun(t, "func f() i64 { if false { g(2); } } func g(a i64) i64 {}", nil, told(0, 1))
	// Many at once.
	const deep = 100000
	wantRun(t, "func f(n i64) i64 { if n == 1 { return 1; } return f(n - 1) + 1; }", []uint64{deep}, told(deep, deep))
}
