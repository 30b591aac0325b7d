package mean_test

import (
	"testing"

	"smithy/api"
)

const fibonacci = "func f(n i64) i64 { if n < 2 { return n; } return f(n - 1) + f(n - 2); }"

// The chapter's examples, by their numbers.
func TestExamples(t *testing.T) {
	// 1
	wantRun(t, fibonacci, []uint64{5}, many, many, told(5, 15, 5))
	wantRun(t, fibonacci, []uint64{5}, 15, 5, told(5, 15, 5))
	wantRun(t, fibonacci, []uint64{5}, many, 4, tooDeep(4, 4))
	wantRun(t, fibonacci, []uint64{5}, 14, many, outOfSteps(14, 5))
	// 2
	const over = "func f(a i64) i64 { print a; return 7 / a; }"
	wantRun(t, over, []uint64{0}, many, many, trapped(api.TrapZero, 1, 1, whole(0)...))
	wantRun(t, over, []uint64{2}, many, many, told(3, 1, 1, whole(2)...))
	// 3
	const past = "func f() f64 { var a[2] i64; a[0] = 5; var i i64 = 0; while i < 3 { print a[i]; i = i + 1; } }"
	wantRun(t, past, nil, many, many, trapped(api.TrapIndex, 4, 1, whole(5, 0)...))
	// 4
	const turn = "func f(x f64) i64 { return i64(x); }"
	wantRun(t, turn, []uint64{bits(1 << 63)}, many, many, trapped(api.TrapRange, 1, 1))
	wantRun(t, turn, []uint64{bits(-1.5)}, many, many, told(minus(1), 1, 1))
	wantRun(t, "func f() u8 {}", nil, many, many, told(0, 1, 1))
	wantRun(t, "func f(a i64) i64 { return f(a + 1); }", []uint64{0}, many, 10, tooDeep(10, 10))
}
