package mean_test

import (
	"testing"

	"smithy/api"
)

func TestTrapZero(t *testing.T) {
	for _, behind := range []string{"", "i32", "u8"} {
		for _, sign := range []string{"/", "%"} {
			wantTrap(t, api.TrapZero, "print 1; print 5"+behind+" "+sign+" 0"+behind+"; print 2;", 1)
			wantTrap(t, api.TrapZero, "print 0"+behind+" "+sign+" (1"+behind+" - 1"+behind+");")
		}
	}
	// Both operands have been reckoned.
	wantTrap(t, api.TrapZero, "print n(1) / n(0);", 1, 0)
	wantTrap(t, api.TrapZero, "print n(1) % (n(2) - n(2)) + n(3);", 1, 2, 2)
	// It is no trap of floats, nor by anything else.
	wantShow(t, "print 1.0 / 0.0;", api.F64, bits(1)|0x7ff0000000000000)
	wantShow(t, "print 0.0 / 0.0;", api.F64, 0x7ff8000000000000)
	wantShows(t, "print 0 / 5; print 0 % 5; print (-9223372036854775807 - 1) / -1; print (-9223372036854775807 - 1) % -1;", 0, 0, -9223372036854775808, 0)
	wantShows(t, "print 5 << 0; print 5 >> 0; print 5 * 0; print 5 - 0; print 5 & 0;", 5, 5, 0, 5, 0)
}

func TestTrapRange(t *testing.T) {
	wantTrap(t, api.TrapRange, "print 1; print u8(256.0); print 2;", 1)
	wantTrap(t, api.TrapRange, "print i32(0.0 / 0.0);")
	wantTrap(t, api.TrapRange, "print i64(1.0 / 0.0);")
	wantTrap(t, api.TrapRange, "print i64(-1.0 / 0.0);")
	wantTrap(t, api.TrapRange, "print n(1) + i64(f64(n(2)) * 1.0e30) + n(3);", 1, 2)
	// A whole number that is beyond the type is cut.
	wantShows(t, "print i64(u8(256)) + i64(u8(-1)) + i64(i32(4294967296));", 255)
	wantShow(t, "print f64(1.0e300);", api.F64, bits(1e300))
	wantShow(t, "print f64(0.0 / 0.0);", api.F64, 0x7ff8000000000000)
}

func TestTrapIndex(t *testing.T) {
	for _, index := range []string{"3", "-1", "256", "9223372036854775807", "-9223372036854775807 - 1", "4294967296", "-4294967296", "1 << 63 >> 1"} {
		wantTrap(t, api.TrapIndex, "print 1; print ns["+index+"]; print 2;", 1)
		wantTrap(t, api.TrapIndex, "print 1; ns["+index+"] = 5; print 2;", 1)
	}
	for _, index := range []string{"0", "1", "2", "-0", "5 % 3", "5 / 2"} {
		wantShows(t, "ns["+index+"] = 5; print ns["+index+"];", 5)
	}
	for _, c := range []struct{ size, index string }{{"1", "1"}, {"256", "256"}, {"255", "255"}} {
		wantTrap(t, api.TrapIndex, "var a["+c.size+"] u8; a["+c.index+"] = 1u8;")
		wantTrap(t, api.TrapIndex, "var a["+c.size+"] u8; print a["+c.index+"];")
		wantShows(t, "var a["+c.size+"] u8; a["+c.index+" - 1] = 7u8; print i64(a["+c.index+" - 1]);", 7)
	}
	// An array's end is its own, also with another one behind it.
	wantTrap(t, api.TrapIndex, "var a[2] i64; var b[2] i64; b[0] = 5; print a[2];")
	wantTrap(t, api.TrapIndex, "var a[2] i64; var b[2] i64; a[1] = 5; print b[-1];")
	// It is asked behind the index, and, where one is put, behind the new worth.
	wantTrap(t, api.TrapIndex, "print ns[n(7)] + n(8);", 7)
	wantTrap(t, api.TrapIndex, "ns[n(7)] = n(8);", 7, 8)
	wantTrap(t, api.TrapZero, "ns[n(7)] = n(8) / 0;", 7, 8)
	wantTrap(t, api.TrapIndex, "ns[ns[n(9)]] = n(8);", 9)
	wantTrap(t, api.TrapIndex, "ns[7] = ns[0] + ns[n(3)] / 0;", 3)
}

// What stands ahead of a trap is shown, and nothing behind it is done, in whatever it stands.
func TestTrapsWithin(t *testing.T) {
	for _, stmts := range []string{
		"print 1; var a i64 = 1 / ns[0]; print 2;",
		"print 1; ns[1] = 1 / ns[0]; print 2;",
		"print 1; ns[1 / ns[0]] = n(5); print 2;",
		"print 1; ns[0] = 1 % ns[0]; print 2;",
		"print 1; if 1 / ns[0] == 1 { print 2; } else { print 3; } print 4;",
		"print 1; while 1 / ns[0] == 1 { print 2; } print 4;",
		"print 1; return 1 / ns[0]; print 2;",
		"print 1; n(1 / ns[0]); print 2;",
		"print 1; pair(1 / ns[0], n(5)); print 2;",
		"print 1; print -(1 / ns[0]);",
		"print 1; print i32(1 / ns[0]);",
		"print 1; print 1 / ns[0] + n(5);",
		"print 1; print 1 / ns[0] == 1 && n(5) == 5;",
		"print 1; print 1 / ns[0] == 1 || n(5) == 5;",
		"while true { print 1; if true { ns[0] = 1 / ns[0]; } print 2; }",
	} {
		wantTrap(t, api.TrapZero, stmts, 1)
	}
	// Within calls that live.
	wantRun(t, "func f(a i64) i64 { print a; if a == 0 { return 1 / a; } var b i64 = f(a - 1); print b; return b; }", []uint64{3}, many, many, trapped(api.TrapZero, 4, 4, whole(3, 2, 1, 0)...))
	wantRun(t, "func f() i64 { g(1); g(0); g(2); } func g(a i64) i64 { print a; return 5 / a; }", nil, many, many, trapped(api.TrapZero, 3, 2, whole(1, 0)...))
	// Of two that would come the first one.
	wantTrap(t, api.TrapZero, "print 1 / 0 + ns[9];")
	wantTrap(t, api.TrapIndex, "print ns[9] + 1 / 0;")
	wantTrap(t, api.TrapRange, "print i64(1.0e30) + 1 / 0;")
	wantTrap(t, api.TrapZero, "print u8(f64(1 / 0) * 1.0e30);")
}
