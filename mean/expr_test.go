package mean_test

import (
	"testing"

	"smithy/api"
	"smithy/scalar"
)

var signs = map[string]api.Op{
	"+": api.OpAdd, "-": api.OpSub, "*": api.OpMul, "/": api.OpDiv, "%": api.OpRem, "&": api.OpAnd, "|": api.OpOr, "^": api.OpXor, "<<": api.OpShl, ">>": api.OpShr,
	"==": api.OpEq, "!=": api.OpNe, "<": api.OpLt, "<=": api.OpLe, ">": api.OpGt, ">=": api.OpGe,
}

// Of two words an operator makes what scalar makes of them, or traps.
func TestOperatorsOfTwo(t *testing.T) {
	asked := 0
	for sign, op := range signs {
		for _, u := range types {
			of, ok := scalar.Of(op, u.Type)
			if !ok {
				continue
			}
			src := "func f(a " + u.word + ", b " + u.word + ") " + wordOf(of) + " { var c " + wordOf(of) + " = a " + sign + " b; print c; return a " + sign + " b; }"
			for _, a := range u.words {
				for _, b := range u.words {
					want := trapped(api.TrapZero, 1, 1)
					if !scalar.Stops(op, u.Type, b) {
						w, _ := scalar.Two(op, u.Type, a, b)
						want = told(w, 1, 1, api.Show{Type: of, Bits: w})
					}
					wantRun(t, src, []uint64{a, b}, 1, 1, want)
					asked++
				}
			}
		}
	}
	if asked < 5000 {
		t.Errorf("only %d asked", asked)
	}
}

func wordOf(t api.Type) string {
	for _, u := range types {
		if u.Type == t {
			return u.word
		}
	}
	return ""
}

func TestOperatorsOfOne(t *testing.T) {
	for sign, op := range map[string]api.Op{"-": api.OpNeg, "!": api.OpNot} {
		for _, u := range types {
			for _, a := range u.words {
				w, ok := scalar.One(op, u.Type, a)
				if ok {
					wantRun(t, "func f(a "+u.word+") "+u.word+" { print "+sign+"a; return "+sign+"a; }", []uint64{a}, 1, 1, told(w, 1, 1, api.Show{Type: u.Type, Bits: w}))
				}
			}
		}
	}
	wantShows(t, "print - - -5; print !0; print !-1; print -n(4);", -5, -1, 0, 4, -4)
}

// What is turned is what scalar turns, or traps.
func TestCasts(t *testing.T) {
	traps := 0
	for _, to := range types {
		for _, from := range types {
			if !scalar.Turns(to.Type, from.Type) {
				continue
			}
			for _, a := range from.words {
				want := trapped(api.TrapRange, 1, 1, api.Show{Type: from.Type, Bits: a})
				if scalar.Fits(to.Type, from.Type, a) {
					w, _ := scalar.Turn(to.Type, from.Type, a)
					want = told(w, 1, 1, api.Show{Type: from.Type, Bits: a}, api.Show{Type: to.Type, Bits: w})
				} else {
					traps++
				}
				wantRun(t, "func f(a "+from.word+") "+to.word+" { print a; print "+to.word+"(a); return "+to.word+"(a); }", []uint64{a}, 1, 1, want)
			}
		}
	}
	if traps < 15 {
		t.Errorf("only %d traps", traps)
	}
	// The ends of each whole type, as the document tells them.
	for _, c := range []struct {
		word string
		x    float64
		fits bool
		want uint64
	}{
		{"u8", 255.9, true, 255}, {"u8", 256, false, 0}, {"u8", -0.9, true, 0}, {"u8", -1, false, 0},
		{"i32", 2147483647.9, true, 2147483647}, {"i32", 2147483648, false, 0}, {"i32", -2147483648.9, true, minus(2147483648)}, {"i32", -2147483649, false, 0},
		{"i64", 9223372036854774784, true, 9223372036854774784}, {"i64", 9223372036854775808, false, 0}, {"i64", -9223372036854775808, true, 1 << 63}, {"i64", -9223372036854777856, false, 0},
	} {
		want := trapped(api.TrapRange, 1, 1)
		if c.fits {
			want = told(c.want, 1, 1)
		}
		wantRun(t, "func f(x f64) "+c.word+" { return "+c.word+"(x); }", []uint64{bits(c.x)}, 1, 1, want)
	}
}

func TestLiteralsAndNames(t *testing.T) {
	wantShow(t, "print 9223372036854775807;", api.I64, 1<<63-1)
	wantShow(t, "print 2147483647i32;", api.I32, 1<<31-1)
	wantShow(t, "print 0.1;", api.F64, bits(0.1))
	wantShows(t, "var a i64 = 1; var b i64 = 2; print a + b * 10; print b + a * 10; print a; print b;", 21, 12, 1, 2)
	// A literal as a word of its own type beside others.
	wantShows(t, "print i64(250u8 + 10u8) + i64(2147483647i32 + 1i32);", 4-2147483648)
}

func TestItem(t *testing.T) {
	wantShows(t, "ns[0] = 5; ns[1] = 6; ns[2] = 7; print ns[0]; print ns[1 + 1]; print ns[ns[0] - 4]; print ns[n(1)];", 5, 7, 6, 1, 6)
	wantShows(t, "ns[0] = 2; ns[2] = 1; ns[1] = 9; print ns[ns[ns[0]]];", 9)
}

// Operands go from left to right, each wholly ahead of the next.
func TestOrderOfOperands(t *testing.T) {
	wantShows(t, "print n(1) + n(2) * n(3);", 1, 2, 3, 7)
	wantShows(t, "print (n(1) + n(2)) * (n(3) - n(4));", 1, 2, 3, 4, -3)
	wantShows(t, "print n(1) - (n(2) - (n(3) - n(4)));", 1, 2, 3, 4, -2)
	wantShows(t, "print n(1) - n(2) - n(3) - n(4);", 1, 2, 3, 4, -8)
	wantShows(t, "print -n(1) + i64(n(2)) + ns[n(0)];", 1, 2, 0, 1)
	wantShows(t, "if n(1) < n(2) { print 3; }", 1, 2, 3)
	// What an operand was, stays so, whatever the next one does.
	wantRun(t, "func f(a i64) i64 { var l[1] i64; l[0] = a; return a * 100 + g(a) + l[0]; } func g(a i64) i64 { a = 50; return a; }", []uint64{3}, many, many, told(353, 2, 2))
}

func TestOrderOfArguments(t *testing.T) {
	wantShows(t, "pair(n(1), n(2));", 1, 2, 12)
	wantShows(t, "print pair(pair(n(1), n(2)), pair(n(3), n(4)));", 1, 2, 12, 3, 4, 34, 13, 1)
	wantRun(t, "func f() i64 { return g(h(1), h(2), h(3), h(4), h(5), h(6), h(7), h(8)); } func g(a i64, b i64, c i64, d i64, e i64, i i64, j i64, k i64) i64 { print a; print b; print c; print d; print e; print i; print j; print k; } func h(a i64) i64 { print a; return a * 10; }",
		nil, many, many, told(0, 10, 2, whole(1, 2, 3, 4, 5, 6, 7, 8, 10, 20, 30, 40, 50, 60, 70, 80)...))
	// All of them ahead of the call, and of what stands behind it.
	wantShows(t, "print n(1) + pair(n(2), n(3)) + n(4);", 1, 2, 3, 23, 4, 7)
}

// The second operand of && and || is reckoned only if the first does not settle it.
func TestBothAndEither(t *testing.T) {
	for _, c := range []struct {
		text string
		want func(a, b, c bool) (bool, []bool)
	}{
		{"g(a) && g(b)", func(a, b, _ bool) (bool, []bool) {
			if !a {
				return false, []bool{a}
			}
			return b, []bool{a, b}
		}},
		{"g(a) || g(b)", func(a, b, _ bool) (bool, []bool) {
			if a {
				return true, []bool{a}
			}
			return b, []bool{a, b}
		}},
		{"g(a) && g(b) || g(c)", func(a, b, c bool) (bool, []bool) {
			switch {
			case !a:
				return c, []bool{a, c}
			case !b:
				return c, []bool{a, b, c}
			}
			return true, []bool{a, b}
		}},
		{"g(a) || g(b) && g(c)", func(a, b, c bool) (bool, []bool) {
			switch {
			case a:
				return true, []bool{a}
			case !b:
				return false, []bool{a, b}
			}
			return c, []bool{a, b, c}
		}},
		{"(g(a) || g(b)) && g(c)", func(a, b, c bool) (bool, []bool) {
			switch {
			case a:
				return c, []bool{a, c}
			case !b:
				return false, []bool{a, b}
			}
			return c, []bool{a, b, c}
		}},
		{"g(a) & g(b) | g(c)", func(a, b, c bool) (bool, []bool) { return a && b || c, []bool{a, b, c} }},
	} {
		for i := range 8 {
			args := [3]bool{i&1 > 0, i&2 > 0, i&4 > 0}
			value, shown := c.want(args[0], args[1], args[2])
			want := told(word(value), 1+len(shown), 2)
			for _, s := range shown {
				want.Shows = append(want.Shows, api.Show{Type: api.Bool, Bits: word(s)})
			}
			src := "func f(a bool, b bool, c bool) bool { return " + c.text + "; } func g(a bool) bool { print a; return a; }"
			wantRun(t, src, []uint64{word(args[0]), word(args[1]), word(args[2])}, many, many, want)
		}
	}
	// A trap in an operand that is not asked for is none.
	wantShow(t, "print false && 1 / 0 == 1;", api.Bool, 0)
	wantShow(t, "print true || ns[3] == 1;", api.Bool, 1)
	wantTrap(t, api.TrapZero, "print true && 1 / 0 == 1;")
	wantTrap(t, api.TrapIndex, "print false || ns[3] == 1;")
}

func word(b bool) uint64 {
	if b {
		return 1
	}
	return 0
}

func TestCalls(t *testing.T) {
	// Itself, one behind it, one ahead of it.
	wantRun(t, "func f(a i64) i64 { if a == 0 { return g(1); } return f(a - 1) + 1; } func g(a i64) i64 { if a == 0 { return 50; } return h(a) * 2; } func h(a i64) i64 { return g(a - 1) + 3; }", []uint64{2}, many, many, told(108, 6, 6))
	wantRun(t, "func even(a i64) bool { if a == 0 { return true; } return odd(a - 1); } func odd(a i64) bool { if a == 0 { return false; } return even(a - 1); }", []uint64{7}, many, many, told(0, 8, 8))
	// What is told is of the function's type.
	for _, u := range types {
		w := u.words[len(u.words)-1]
		wantRun(t, "func f(a "+u.word+") "+u.word+" { print g(a); return g(g(a)); } func g(a "+u.word+") "+u.word+" { return a; }", []uint64{w}, many, many, told(w, 4, 2, api.Show{Type: u.Type, Bits: w}))
	}
	// A function and a local of one name know nothing of each other.
	wantRun(t, "func f(f i64) i64 { if f > 3 { return f; } return f(f + 1) + f; }", []uint64{2}, many, many, told(9, 3, 3))
}
