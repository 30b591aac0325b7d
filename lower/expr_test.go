package lower_test

import (
	"math"
	"testing"

	"smithy/api"
	"smithy/scalar"
)

var signs = map[string]api.Op{
	"+": api.OpAdd, "-": api.OpSub, "*": api.OpMul, "/": api.OpDiv, "%": api.OpRem, "&": api.OpAnd, "|": api.OpOr, "^": api.OpXor, "<<": api.OpShl, ">>": api.OpShr,
	"==": api.OpEq, "!=": api.OpNe, "<": api.OpLt, "<=": api.OpLe, ">": api.OpGt, ">=": api.OpGe,
}

// wantWord asks what a program tells and shows of some words: a word of a type, or a trap.
func (p program) wantWord(t *testing.T, args []uint64, of api.Type, word uint64, trap api.Trap) {
	t.Helper()
	want := trapped(trap, 1)
	if trap == api.NoTrap {
		want = told(word, 1, api.Show{Type: of, Bits: word})
	}
	p.args = args
	if _, done := p.wantKept(t, 1, 1); !showTheSame(done, want) {
		t.Errorf("%s of %x: %v; want %v", p.src, args, done, want)
	}
}

// Of two words an operator makes what scalar makes of them, or traps.
func TestOperatorsOfTwo(t *testing.T) {
	asked := 0
	for sign, op := range signs {
		for _, u := range types {
			of, ok := scalar.Of(op, u.Type)
			if !ok {
				continue
			}
			p := programOf(t, "func f(a "+u.word+", b "+u.word+") "+wordOf(of)+" { var c "+wordOf(of)+" = a "+sign+" b; print c; return a "+sign+" b; }")
			for _, a := range u.words {
				for _, b := range u.words {
					trap := api.NoTrap
					if scalar.Stops(op, u.Type, b) {
						trap = api.TrapZero
					}
					w, _ := scalar.Two(op, u.Type, a, b)
					p.wantWord(t, []uint64{a, b}, of, w, trap)
					asked++
				}
			}
		}
	}
	if asked < 5000 {
		t.Errorf("only %d asked", asked)
	}
}

func TestOperatorsOfOne(t *testing.T) {
	asked := 0
	for sign, op := range map[string]api.Op{"-": api.OpNeg, "!": api.OpNot} {
		for _, u := range types {
			if _, ok := scalar.Of(op, u.Type); !ok {
				continue
			}
			p := programOf(t, "func f(a "+u.word+") "+u.word+" { print "+sign+"a; return "+sign+"a; }")
			for _, a := range u.words {
				w, _ := scalar.One(op, u.Type, a)
				p.wantWord(t, []uint64{a}, u.Type, w, api.NoTrap)
				asked++
			}
		}
	}
	if asked < 60 {
		t.Errorf("only %d asked", asked)
	}
	wantShows(t, "print - - -5; print !0; print !-1; print -n(4);", -5, -1, 0, 4, -4)
}

// floats are words of F64, those about the ends of the whole types among them, each with the ones next to it.
func floats() []uint64 {
	l := append([]uint64{}, types[4].words...)
	for _, x := range []float64{0, 0.5, 1, 127, 128, 255, 256, 1 << 31, 1<<31 - 1, 1<<31 + 1, 1<<32 - 1, 1 << 53, 1 << 62, 1 << 63, 1<<63 + 1<<11, 1 << 64, 1e300} {
		for _, y := range []float64{x, -x} {
			l = append(l, bits(y), bits(math.Nextafter(y, math.Inf(1))), bits(math.Nextafter(y, math.Inf(-1))))
		}
	}
	return l
}

// What is turned is what scalar turns, or traps.
func TestCasts(t *testing.T) {
	traps, fits := 0, 0
	for _, to := range types {
		for _, from := range types {
			if !scalar.Turns(to.Type, from.Type) {
				continue
			}
			words := from.words
			if from.Type == api.F64 {
				words = floats()
			}
			p := programOf(t, "func f(a "+from.word+") "+to.word+" { print "+to.word+"(a); return "+to.word+"(a); }")
			for _, a := range words {
				trap := api.NoTrap
				if !scalar.Fits(to.Type, from.Type, a) {
					trap = api.TrapRange
					traps++
				} else {
					fits++
				}
				w, _ := scalar.Turn(to.Type, from.Type, a)
				p.wantWord(t, []uint64{a}, to.Type, w, trap)
			}
		}
	}
	if traps < 100 || fits < 300 {
		t.Errorf("only %d traps, %d that fit", traps, fits)
	}
	// The ends of each whole type, as the document tells them.
	for _, c := range []struct {
		word string
		x    float64
		fits bool
		want uint64
	}{
		{"u8", 255.9, true, 255}, {"u8", 256, false, 0}, {"u8", -0.9, true, 0}, {"u8", -1, false, 0},
		{"i32", 2147483647.9, true, 2147483647}, {"i32", 2147483648, false, 0}, {"i32", -2147483648.9, true, minus(2147483648)}, {"i32", -2147483649, false, 0},
		{"i64", 9223372036854774784, true, 9223372036854774784}, {"i64", 9223372036854775808, false, 0}, {"i64", -9223372036854775808, true, 1 << 63}, {"i64", -9223372036854777856, false, 0},
		{"u8", math.NaN(), false, 0}, {"i32", math.NaN(), false, 0}, {"i64", math.NaN(), false, 0}, {"i64", math.Inf(1), false, 0}, {"i64", math.Inf(-1), false, 0},
	} {
		want := trapped(api.TrapRange, 1)
		if c.fits {
			want = told(c.want, 1)
		}
		wantRun(t, "func f(x f64) "+c.word+" { return "+c.word+"(x); }", []uint64{scalar.Cut(api.F64, bits(c.x))}, want)
	}
}

func TestLiteralsAndNames(t *testing.T) {
	wantShow(t, "print 9223372036854775807;", api.I64, 1<<63-1)
	wantShow(t, "print 2147483647i32;", api.I32, 1<<31-1)
	wantShow(t, "print 255u8;", api.U8, 255)
	wantShow(t, "print 0.1;", api.F64, bits(0.1))
	wantShow(t, "print true;", api.Bool, 1)
	wantShow(t, "print false;", api.Bool, 0)
	wantShows(t, "var a i64 = 1; var b i64 = 2; print a + b * 10; print b + a * 10; print a; print b;", 21, 12, 1, 2)
	wantShows(t, "print i64(250u8 + 10u8) + i64(2147483647i32 + 1i32);", 4-2147483648)
}

func TestItem(t *testing.T) {
	wantShows(t, "ns[0] = 5; ns[1] = 6; ns[2] = 7; print ns[0]; print ns[1 + 1]; print ns[ns[0] - 4]; print ns[n(1)];", 5, 7, 6, 1, 6)
	wantShows(t, "ns[0] = 2; ns[2] = 1; ns[1] = 9; print ns[ns[ns[0]]];", 9)
	wantShows(t, "ns[0] = 2; ns[2] = 1; ns[1] = 9; var i i64 = 0; print ns[i] * 100 + ns[i + 1] * 10 + ns[i + 2]; print i;", 291, 0)
}

// Operands go from left to right, each wholly ahead of the next.
func TestOrderOfOperands(t *testing.T) {
	wantShows(t, "print n(1) + n(2) * n(3);", 1, 2, 3, 7)
	wantShows(t, "print (n(1) + n(2)) * (n(3) - n(4));", 1, 2, 3, 4, -3)
	wantShows(t, "print n(1) - (n(2) - (n(3) - n(4)));", 1, 2, 3, 4, -2)
	wantShows(t, "print n(1) - n(2) - n(3) - n(4);", 1, 2, 3, 4, -8)
	wantShows(t, "print -n(1) + i64(n(2)) + ns[n(0)];", 1, 2, 0, 1)
	wantShows(t, "if n(1) < n(2) { print 3; }", 1, 2, 3)
	wantShows(t, "print n(8) / n(2) - n(7) % n(4);", 8, 2, 7, 4, 1)
	// What an operand was, stays so, whatever the next one does.
	wantRun(t, "func f(a i64) i64 { var l[1] i64; l[0] = a; return a * 100 + g(a) + l[0]; } func g(a i64) i64 { a = 50; return a; }", []uint64{3}, told(353, 2))
	wantShows(t, "var a i64 = 3; print a - (a * 2 - (a * 3 - (a * 4 - a)));", 3-(6-(9-(12-3))))
	wantShows(t, "var a bool = true; var c bool = false; a = c || !a || a; print i64(2) ; if a { print 1; } if c { print 2; }", 2, 1)
	wantShows(t, "var a bool = false; a = true && (a || !a); if a { print 1; } a = a && (!a || a) && a; if a { print 2; }", 1, 2)
}

func TestOrderOfArguments(t *testing.T) {
	wantShows(t, "pair(n(1), n(2));", 1, 2, 12)
	wantShows(t, "print pair(pair(n(1), n(2)), pair(n(3), n(4)));", 1, 2, 12, 3, 4, 34, 13, 1)
	wantRun(t, "func f() i64 { return g(h(1), h(2), h(3), h(4), h(5), h(6), h(7), h(8)); } func g(a i64, b i64, c i64, d i64, e i64, i i64, j i64, k i64) i64 { print a; print b; print c; print d; print e; print i; print j; print k; } func h(a i64) i64 { print a; return a * 10; }",
		nil, told(0, 2, whole(1, 2, 3, 4, 5, 6, 7, 8, 10, 20, 30, 40, 50, 60, 70, 80)...))
	wantShows(t, "print n(1) + pair(n(2), n(3)) + n(4);", 1, 2, 3, 23, 4, 7)
	// Of all types, beside one another, in other orders than they are declared in.
	wantRun(t, "func f(a u8, b f64, c bool, d i32, e i64) i64 { return g(d, c, b + 1.0, e, !c, a + 1u8, b, a); } func g(a i32, b bool, c f64, d i64, e bool, h u8, i f64, j u8) i64 { print a; print b; print c; print d; print e; print h; print i; print j; return d; }",
		[]uint64{255, bits(1.5), 1, minus(3), 77}, told(77, 2, api.Show{Type: api.I32, Bits: minus(3)}, api.Show{Type: api.Bool, Bits: 1}, api.Show{Type: api.F64, Bits: bits(2.5)}, api.Show{Type: api.I64, Bits: 77},
			api.Show{Type: api.Bool}, api.Show{Type: api.U8}, api.Show{Type: api.F64, Bits: bits(1.5)}, api.Show{Type: api.U8, Bits: 255}))
}

// The second operand of && and || is reckoned only if the first does not settle it.
func TestBothAndEither(t *testing.T) {
	for _, c := range []struct {
		text string
		want func(a, b, c bool) (bool, []bool)
	}{
		{"g(a) && g(b)", func(a, b, _ bool) (bool, []bool) {
			if !a {
				return false, []bool{a}
			}
			return b, []bool{a, b}
		}},
		{"g(a) || g(b)", func(a, b, _ bool) (bool, []bool) {
			if a {
				return true, []bool{a}
			}
			return b, []bool{a, b}
		}},
		{"a && g(b)", func(a, b, _ bool) (bool, []bool) {
			if !a {
				return false, nil
			}
			return b, []bool{b}
		}},
		{"g(a) || b", func(a, b, _ bool) (bool, []bool) { return a || b, []bool{a} }},
		{"g(a) && g(b) || g(c)", func(a, b, c bool) (bool, []bool) {
			switch {
			case !a:
				return c, []bool{a, c}
			case !b:
				return c, []bool{a, b, c}
			}
			return true, []bool{a, b}
		}},
		{"g(a) || g(b) && g(c)", func(a, b, c bool) (bool, []bool) {
			switch {
			case a:
				return true, []bool{a}
			case !b:
				return false, []bool{a, b}
			}
			return c, []bool{a, b, c}
		}},
		{"(g(a) || g(b)) && g(c)", func(a, b, c bool) (bool, []bool) {
			switch {
			case a:
				return c, []bool{a, c}
			case !b:
				return false, []bool{a, b}
			}
			return c, []bool{a, b, c}
		}},
		{"g(a) & g(b) | g(c)", func(a, b, c bool) (bool, []bool) { return a && b || c, []bool{a, b, c} }},
		{"a && b && c || !a && !b && !c", func(a, b, c bool) (bool, []bool) { return a == b && b == c, nil }},
	} {
		for i := range 8 {
			args := [3]bool{i&1 > 0, i&2 > 0, i&4 > 0}
			value, shown := c.want(args[0], args[1], args[2])
			want := told(word(value), 2)
			if len(shown) == 0 {
				// No call is made.
				want.Depth = 1
			}
			for _, s := range shown {
				want.Shows = append(want.Shows, api.Show{Type: api.Bool, Bits: word(s)})
			}
			for _, body := range []string{"return " + c.text + ";", "if " + c.text + " { return true; } return false;", "a = " + c.text + "; return a;", "b = " + c.text + "; return b;"} {
				src := "func f(a bool, b bool, c bool) bool { " + body + " } func g(a bool) bool { print a; return a; }"
				wantRun(t, src, []uint64{word(args[0]), word(args[1]), word(args[2])}, want)
			}
		}
	}
	// A trap in an operand that is not asked for is none.
	wantShow(t, "print false && 1 / 0 == 1;", api.Bool, 0)
	wantShow(t, "print true || ns[3] == 1;", api.Bool, 1)
	wantTrap(t, api.TrapZero, "print true && 1 / 0 == 1;")
	wantTrap(t, api.TrapIndex, "print false || ns[3] == 1;")
	// The local that is the first operand stays what it was.
	wantRun(t, "func f(a bool, b bool) bool { print a && b; print a || b; print a; return a; }", []uint64{1, 0}, told(1, 1, api.Show{Type: api.Bool}, api.Show{Type: api.Bool, Bits: 1}, api.Show{Type: api.Bool, Bits: 1}))
}

func word(b bool) uint64 {
	if b {
		return 1
	}
	return 0
}

func TestCalls(t *testing.T) {
	// Itself, one behind it, one ahead of it.
	wantRun(t, "func f(a i64) i64 { if a == 0 { return g(1); } return f(a - 1) + 1; } func g(a i64) i64 { if a == 0 { return 50; } return h(a) * 2; } func h(a i64) i64 { return g(a - 1) + 3; }", []uint64{2}, told(108, 6))
	wantRun(t, "func even(a i64) bool { if a == 0 { return true; } return odd(a - 1); } func odd(a i64) bool { if a == 0 { return false; } return even(a - 1); }", []uint64{7}, told(0, 8))
	for _, u := range types {
		w := u.words[len(u.words)-1]
		wantRun(t, "func f(a "+u.word+") "+u.word+" { print g(a); return g(g(a)); } func g(a "+u.word+") "+u.word+" { return a; }", []uint64{w}, told(w, 2, api.Show{Type: u.Type, Bits: w}))
	}
	// A function and a local of one name know nothing of each other.
	wantRun(t, "func f(f i64) i64 { if f > 3 { return f; } return f(f + 1) + f; }", []uint64{2}, told(9, 3))
	// Each function of a tree may be the first one that is called.
	p := programOf(t, "func f() i64 { return 10; } func g(a i64) i64 { return a + f(); } func h(a i64, b i64) i64 { return g(a) * b; }")
	for f, want := range []api.Trace{told(10, 1), told(13, 2), told(26, 3)} {
		p.f, p.args = f, []uint64{3, 2}[:f]
		if _, done := p.wantKept(t, many, many); !showTheSame(done, want) || done.Depth != want.Depth {
			t.Errorf("of function %d: %v; want %v", f, done, want)
		}
	}
}
