package lower_test

import (
	"slices"
	"testing"

	"smithy/api"
)

func TestTrapZero(t *testing.T) {
	for _, behind := range []string{"", "i32", "u8"} {
		for _, sign := range []string{"/", "%"} {
			wantTrap(t, api.TrapZero, "print 1; print 5"+behind+" "+sign+" 0"+behind+"; print 2;", 1)
			wantTrap(t, api.TrapZero, "print 0"+behind+" "+sign+" (1"+behind+" - 1"+behind+");")
		}
	}
	// Both operands have been reckoned.
	wantTrap(t, api.TrapZero, "print n(1) / n(0);", 1, 0)
	wantTrap(t, api.TrapZero, "print n(1) % (n(2) - n(2)) + n(3);", 1, 2, 2)
	// It is no trap of floats, nor by anything else.
	wantShow(t, "print 1.0 / 0.0;", api.F64, 0x7ff0000000000000)
	wantShow(t, "print 0.0 / 0.0;", api.F64, 0x7ff8000000000000)
	wantShows(t, "print 0 / 5; print 0 % 5; print (-9223372036854775807 - 1) / -1; print (-9223372036854775807 - 1) % -1;", 0, 0, -9223372036854775808, 0)
	wantShows(t, "print 5 << 0; print 5 >> 0; print 5 * 0; print 5 - 0; print 5 & 0;", 5, 5, 0, 5, 0)
}

func TestTrapRange(t *testing.T) {
	wantTrap(t, api.TrapRange, "print 1; print u8(256.0); print 2;", 1)
	wantTrap(t, api.TrapRange, "print i32(0.0 / 0.0);")
	wantTrap(t, api.TrapRange, "print i64(1.0 / 0.0);")
	wantTrap(t, api.TrapRange, "print i64(-1.0 / 0.0);")
	wantTrap(t, api.TrapRange, "print n(1) + i64(f64(n(2)) * 1.0e30) + n(3);", 1, 2)
	wantTrap(t, api.TrapRange, "print u8(-1.0);")
	// A whole number that is beyond the type is cut.
	wantShows(t, "print i64(u8(256)) + i64(u8(-1)) + i64(i32(4294967296));", 255)
	wantShow(t, "print f64(1.0e300);", api.F64, bits(1e300))
	wantShow(t, "print f64(0.0 / 0.0);", api.F64, 0x7ff8000000000000)
}

func TestTrapIndex(t *testing.T) {
	for _, index := range []string{"3", "-1", "256", "9223372036854775807", "-9223372036854775807 - 1", "4294967296", "-4294967296", "1 << 63 >> 1"} {
		wantTrap(t, api.TrapIndex, "print 1; print ns["+index+"]; print 2;", 1)
		wantTrap(t, api.TrapIndex, "print 1; ns["+index+"] = 5; print 2;", 1)
	}
	for _, index := range []string{"0", "1", "2", "-0", "5 % 3", "5 / 2"} {
		wantShows(t, "ns["+index+"] = 5; print ns["+index+"];", 5)
	}
	for _, c := range []struct{ size, index string }{{"1", "1"}, {"256", "256"}, {"255", "255"}} {
		wantTrap(t, api.TrapIndex, "var a["+c.size+"] u8; a["+c.index+"] = 1u8;")
		wantTrap(t, api.TrapIndex, "var a["+c.size+"] u8; print a["+c.index+"];")
		wantShows(t, "var a["+c.size+"] u8; a["+c.index+" - 1] = 7u8; print i64(a["+c.index+" - 1]);", 7)
	}
	for _, u := range types {
		wantTrap(t, api.TrapIndex, "var a[4] "+u.word+"; print a[4];")
		wantTrap(t, api.TrapIndex, "var a[4] "+u.word+"; a[-1] = a[3];")
	}
	// An array's end is its own.
	wantTrap(t, api.TrapIndex, "var a[2] i64; var b[2] i64; b[0] = 5; print a[2];")
	wantTrap(t, api.TrapIndex, "var a[2] i64; var b[2] i64; a[1] = 5; print b[-1];")
	wantTrap(t, api.TrapIndex, "var a[2] i64; var b[4] i64; b[3] = 5; print b[3]; print a[3];", 5)
	// It is asked behind the index, and, where one is put, behind the new worth.
	wantTrap(t, api.TrapIndex, "print ns[n(7)] + n(8);", 7)
	wantTrap(t, api.TrapIndex, "ns[n(7)] = n(8);", 7, 8)
	wantTrap(t, api.TrapZero, "ns[n(7)] = n(8) / 0;", 7, 8)
	wantTrap(t, api.TrapRange, "ns[n(7)] = i64(1.0e30) + n(8);", 7)
	wantTrap(t, api.TrapIndex, "ns[ns[n(9)]] = n(8);", 9)
	wantTrap(t, api.TrapIndex, "ns[7] = ns[0] + ns[n(3)] / 0;", 3)
}

// What stands ahead of a trap is shown, and nothing behind it is done, in whatever it stands.
func TestTrapsWithin(t *testing.T) {
	for _, stmts := range []string{
		"print 1; var a i64 = 1 / ns[0]; print 2;",
		"print 1; ns[1] = 1 / ns[0]; print 2;",
		"print 1; ns[1 / ns[0]] = n(5); print 2;",
		"print 1; ns[0] = 1 % ns[0]; print 2;",
		"print 1; if 1 / ns[0] == 1 { print 2; } else { print 3; } print 4;",
		"print 1; while 1 / ns[0] == 1 { print 2; } print 4;",
		"print 1; return 1 / ns[0]; print 2;",
		"print 1; n(1 / ns[0]); print 2;",
		"print 1; pair(1 / ns[0], n(5)); print 2;",
		"print 1; print -(1 / ns[0]);",
		"print 1; print i32(1 / ns[0]);",
		"print 1; print 1 / ns[0] + n(5);",
		"print 1; print 1 / ns[0] == 1 && n(5) == 5;",
		"print 1; print 1 / ns[0] == 1 || n(5) == 5;",
		"print 1; print 0 == 0 && 1 / ns[0] == 1 && n(5) == 5;",
		"print 1; print 0 == 1 || 1 / ns[0] == 1 || n(5) == 5;",
		"while true { print 1; if true { ns[0] = 1 / ns[0]; } print 2; }",
	} {
		wantTrap(t, api.TrapZero, stmts, 1)
	}
	// Within calls that live.
	wantRun(t, "func f(a i64) i64 { print a; if a == 0 { return 1 / a; } var b i64 = f(a - 1); print b; return b; }", []uint64{3}, trapped(api.TrapZero, 4, whole(3, 2, 1, 0)...))
	wantRun(t, "func f() i64 { g(1); g(0); g(2); } func g(a i64) i64 { print a; return 5 / a; }", nil, trapped(api.TrapZero, 2, whole(1, 0)...))
	// Of two that would come the first one.
	wantTrap(t, api.TrapZero, "print 1 / 0 + ns[9];")
	wantTrap(t, api.TrapIndex, "print ns[9] + 1 / 0;")
	wantTrap(t, api.TrapRange, "print i64(1.0e30) + 1 / 0;")
	wantTrap(t, api.TrapZero, "print u8(f64(1 / 0) * 1.0e30);")
	wantTrap(t, api.TrapZero, "print 1 / 0 / 0; print ns[9];")
	wantTrap(t, api.TrapIndex, "print 1 / ns[3];")
	// The same trap in the same function, each time it is asked.
	wantTrap(t, api.TrapZero, "var i i64 = 3; while true { print 6 / i; i = i - 1; print 6 % i; }", 2, 0, 3, 0, 6)
}

// watched is a graph in which each operation that a source could trap at shows ahead of it what that hangs on.
func watched(g api.Graph) api.Graph {
	g.Blocks = slices.Clone(g.Blocks)
	for i, b := range g.Blocks {
		var ins []api.Ins
		for _, x := range b.Ins {
			switch {
			case x.Op == api.OpDiv || x.Op == api.OpRem:
				ins = append(ins, api.Ins{Kind: api.InsPrint, Args: x.Args[1:2]})
			case x.Kind == api.InsCast || x.Kind == api.InsLoad || x.Kind == api.InsStore:
				ins = append(ins, api.Ins{Kind: api.InsPrint, Args: x.Args[:1]})
			}
			ins = append(ins, x)
		}
		g.Blocks[i].Ins = ins
	}
	return g
}

// No operation is reached that would have to make up what the source traps at: a block ahead of it has asked.
func TestNothingWholeIsReached(t *testing.T) {
	for _, c := range []struct {
		src  string
		good func(w uint64) bool
	}{
		{"func f(a i64) i64 { return 7 / a; }", func(w uint64) bool { return w != 0 }},
		{"func f(a i64) i64 { return 7 % a; }", func(w uint64) bool { return w != 0 }},
		{"func f(a i64) i64 { var l[3] i64; return l[a]; }", func(w uint64) bool { return w < 3 }},
		{"func f(a i64) i64 { var l[3] i64; l[a] = 5; }", func(w uint64) bool { return w < 3 }},
	} {
		p := programOf(t, c.src)
		p.graphs[0] = watched(p.graphs[0])
		for _, w := range append(types[3].words, 2, 4, minus(2), 256) {
			trace := ran(t, p.graphs, 0, []uint64{w}, many, many, c.src)
			if reached := len(trace.Shows) > 0; reached != c.good(w) || reached != (trace.End == api.Told) || reached && trace.Shows[0].Bits != w {
				t.Errorf("%s of %x: %v", c.src, w, trace)
			}
		}
	}
	for _, to := range []string{"u8", "i32", "i64"} {
		p := programOf(t, "func f(x f64) "+to+" { return "+to+"(x); }")
		p.graphs[0] = watched(p.graphs[0])
		for _, w := range floats() {
			if trace := ran(t, p.graphs, 0, []uint64{w}, many, many, to); len(trace.Shows) > 0 != (trace.End == api.Told) {
				t.Errorf("%s of %x: %v", p.src, w, trace)
			}
		}
	}
}
