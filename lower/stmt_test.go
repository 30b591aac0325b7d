package lower_test

import (
	"testing"

	"smithy/api"
)

func TestVar(t *testing.T) {
	wantShows(t, "var a i64 = 5; print a;", 5)
	wantShows(t, "var a i64 = 5; var b i64 = a + 1; print a; print b;", 5, 6)
	wantShows(t, "print 1; var a i64 = n(2); print 3; print a; print a;", 1, 2, 3, 2, 2)
	// One that is set to another one is its own.
	wantShows(t, "var a i64 = 5; var b i64 = a; a = 6; print b; b = 7; print a;", 5, 6)
	// Anew each time round.
	wantShows(t, "var i i64 = 0; while i < 3 { var a i64 = i * 10; print a; a = 99; i = i + 1; }", 0, 10, 20)
	wantShows(t, "var i i64 = 0; while i < 3 { var a i64 = 0; a = a + 1; print a; i = i + 1; }", 1, 1, 1)
	// A name that is taken again is another variable, of another type too.
	wantShows(t, "if true { var a i64 = 1; print a; } if true { var a i64 = 2; print a; } var a i64 = 3; print a;", 1, 2, 3)
	wantShows(t, "var c i64 = 7; if true { var a i64 = 1; a = 5; } if true { var b i64 = 2; var a u8 = 3u8; b = b + i64(a); print b; } print c;", 5, 7)
}

func TestSet(t *testing.T) {
	wantShows(t, "var a i64 = 5; a = 6; print a; a = a * a; print a; a = a; print a;", 6, 36, 36)
	wantShows(t, "var a i64 = 1; var b i64 = 2; a = b; b = 3; print a; print b;", 2, 3)
	wantShows(t, "var a i64 = 1; var b i64 = 2; var c i64 = a; a = b; b = c; print a; print b;", 2, 1)
	wantShows(t, "var a i64 = 1; if true { a = 2; if true { a = a + 5; } } print a;", 7)
}

func TestArray(t *testing.T) {
	wantShows(t, "var a[3] i64; print a[0]; print a[1]; print a[2];", 0, 0, 0)
	wantShows(t, "var a[3] i64; a[1] = 5; print a[0]; print a[1]; print a[2]; a[1] = 6; a[2] = 7; print a[1]; print a[2];", 0, 5, 0, 6, 7)
	// Arrays and variables about it are others.
	wantShows(t, "var a i64 = 1; var b[2] i64; var c i64 = 3; var d[2] i64; b[0] = 10; b[1] = 11; d[0] = 20; d[1] = 21; print a; print b[0]; print b[1]; print c; print d[0]; print d[1];", 1, 10, 11, 3, 20, 21)
	// All elements are 0 each time it is declared.
	wantShows(t, "var i i64 = 0; while i < 3 { var a[2] i64; print a[0] + a[1]; a[0] = 7; a[1] = 8; print a[0] + a[1]; i = i + 1; }", 0, 15, 0, 15, 0, 15)
	wantShows(t, "var i i64 = 0; while i < 3 { i = i + 1; var a[2] i64; print a[1]; a[1] = 7; if i == 2 { continue; } var b[2] i64; print b[0]; b[0] = 8; }", 0, 0, 0, 0, 0)
	wantShows(t, "var b[2] i64; b[0] = 1; var i i64 = 0; while i < 2 { var a[2] i64; a[0] = a[0] + b[0]; b[0] = b[0] + a[0]; i = i + 1; } print b[0];", 4)
	wantShows(t, "if true { var a[2] i64; a[1] = 5; } if true { var a[2] i64; print a[1]; }", 0)
	// The greatest one, to its last element.
	wantShows(t, "var a[256] i64; var i i64 = 0; while i < 256 { a[i] = i; i = i + 1; } print a[0]; print a[255]; print a[128];", 0, 255, 128)
	for _, u := range types {
		wantShow(t, "var a[1] "+u.word+"; print a[0];", u.Type, 0)
	}
}

func TestPut(t *testing.T) {
	wantShows(t, "ns[2] = 5; print ns[2]; print ns[0];", 5, 0)
	// The index, then the new worth, once each.
	wantShows(t, "ns[n(1)] = n(7); print ns[1];", 1, 7, 7)
	wantShows(t, "var i i64 = 0; ns[i] = 4; ns[ns[i] - 3] = ns[0] + 1; print ns[0]; print ns[1];", 4, 5)
	wantShows(t, "ns[0] = 1; ns[1] = ns[0] + 1; ns[0] = ns[0] + ns[1]; print ns[0];", 3)
	for _, u := range types {
		for _, w := range u.words {
			wantRun(t, "func f(a "+u.word+") "+u.word+" { var l[2] "+u.word+"; l[1] = a; return l[1]; }", []uint64{w}, told(w, 1))
		}
	}
}

func truth(b bool) string {
	if b {
		return "true"
	}
	return "false"
}

func TestIf(t *testing.T) {
	wantShows(t, "if true { print 1; } print 2;", 1, 2)
	wantShows(t, "if false { print 1; } print 2;", 2)
	wantShows(t, "if true { print 1; } else { print 2; } print 3;", 1, 3)
	wantShows(t, "if false { print 1; } else { print 2; } print 3;", 2, 3)
	wantShows(t, "if false { print 1; } else { } print 3;", 3)
	wantShows(t, "if true { } else { print 2; } print 3;", 3)
	wantShows(t, "if true { } if false { } else { } print 3;", 3)
	for i, want := range [][]int{{1, 9}, {2, 9}, {3, 9}, {4, 9}} {
		first, second, third := i == 0, i <= 1, i <= 2
		wantShows(t, "if "+truth(first)+" { print 1; } else if "+truth(second)+" { print 2; } else if "+truth(third)+" { print 3; } else { print 4; } print 9;", want...)
	}
	wantShows(t, "if n(1) == 0 { print 10; } else if n(2) == 2 { print 20; } else if n(3) == 3 { print 30; } print 9;", 1, 2, 20, 9)
	wantShows(t, "if true { if false { print 1; } else { print 2; if true { print 3; } print 4; } print 5; } print 6;", 2, 3, 4, 5, 6)
	wantShows(t, "var a bool = true; if a { a = false; print 1; } else { print 2; }", 1)
}

func TestWhile(t *testing.T) {
	wantShows(t, "while false { print 1; } print 2;", 2)
	wantShows(t, "var i i64 = 0; while i < 3 { print i; i = i + 1; } print 9;", 0, 1, 2, 9)
	// The condition is looked at each time, also when it ends the loop.
	wantShows(t, "var i i64 = 0; while n(i) < 2 { i = i + 1; } print 9;", 0, 1, 2, 9)
	wantShows(t, "var i i64 = 0; while i < 2 { var j i64 = 0; while j < 3 { print i * 10 + j; j = j + 1; } i = i + 1; }", 0, 1, 2, 10, 11, 12)
	wantShows(t, "var i i64 = 0; while i < 4 { while i % 2 == 0 { i = i + 1; print i; } i = i + 1; }", 1, 3)
	wantShows(t, "var i i64 = 0; while i < 2 { i = i + 1; } while i < 4 { print i; i = i + 1; }", 2, 3)
	wantShows(t, "var i i64 = 0; while i < 3 && (i != 1 || n(i) == 1) { i = i + 1; } print i;", 1, 3)
}

func TestBreak(t *testing.T) {
	wantShows(t, "while true { print 1; break; print 2; } print 3;", 1, 3)
	wantShows(t, "var i i64 = 0; while true { if i == 2 { break; } print i; i = i + 1; } print 9;", 0, 1, 9)
	wantShows(t, "while true { if true { if false { } else { if true { print 1; break; } print 2; } print 3; } print 4; } print 5;", 1, 5)
	// It is the innermost loop that ends; behind an inner one it is the outer one again.
	wantShows(t, "var i i64 = 0; while i < 2 { while true { print i; break; } print 7; i = i + 1; } print 9;", 0, 7, 1, 7, 9)
	wantShows(t, "while true { while false { } print 1; break; } print 2;", 1, 2)
	wantShows(t, "while true { while true { while true { break; } print 1; break; } print 2; break; } print 3;", 1, 2, 3)
	wantShows(t, "while true { break; break; continue; print 1; } print 3;", 3)
}

func TestContinue(t *testing.T) {
	wantShows(t, "var i i64 = 0; while i < 4 { i = i + 1; if i == 2 { continue; } print i; } print 9;", 1, 3, 4, 9)
	wantShows(t, "var i i64 = 0; while n(i) < 2 { i = i + 1; continue; print 7; } print 9;", 0, 1, 2, 9)
	wantShows(t, "var i i64 = 0; while i < 2 { i = i + 1; if true { if false { } else { continue; } print 1; } print 2; } print 3;", 3)
	wantShows(t, "var i i64 = 0; while i < 2 { var j i64 = 0; while j < 2 { j = j + 1; continue; } print i * 10 + j; i = i + 1; } print 9;", 2, 12, 9)
	wantShows(t, "var i i64 = 0; while i < 2 { i = i + 1; while false { } continue; print 1; } print 2;", 2)
	wantShows(t, "var i i64 = 0; while i < 5 { i = i + 1; if i == 2 { continue; } if i == 4 { break; } print i; } print 9;", 1, 3, 9)
	wantShows(t, "var i i64 = 0; while i < 3 { i = i + 1; while true { if i >= 2 { break; } i = i + 1; continue; } print i; continue; } print 9;", 2, 3, 9)
}

func TestReturn(t *testing.T) {
	wantRun(t, "func f() i64 { print 1; return 5; print 2; }", nil, told(5, 1, whole(1)...))
	wantRun(t, "func f() i64 { return 5; return 6; while true { print 7; } if 1 / 0 == 1 { return 8; } }", nil, told(5, 1))
	wantRun(t, "func f() i64 { while true { if true { return 4; } print 1; } }", nil, told(4, 1))
	wantRun(t, "func f() i64 { while true { while true { return 4; } } }", nil, told(4, 1))
	wantRun(t, "func f() i64 { if true { return 1; } else { return 2; } return 3; }", nil, told(1, 1))
	wantRun(t, "func f() i64 { if false { return 1; } else { return 2; } return 3; }", nil, told(2, 1))
	wantShows(t, "var i i64 = 0; while i < 2 { print 10 + n(i) * 2; i = i + 1; } print 9;", 0, 10, 1, 12, 9)
	wantRun(t, "func f() i64 { var a i64 = 10 + g(2) * 3; print a; return a; } func g(n i64) i64 { while true { if n == 2 { while n < 9 { return 7; } } } }", nil, told(31, 2, whole(31)...))
	for _, u := range types {
		for _, w := range u.words {
			wantRun(t, "func f(a "+u.word+") "+u.word+" { return a; }", []uint64{w}, told(w, 1))
		}
	}
}

// Behind its last statement a function tells 0 of its type.
func TestNoReturn(t *testing.T) {
	for _, u := range types {
		wantRun(t, "func f() "+u.word+" {}", nil, told(0, 1))
		wantRun(t, "func f(a "+u.word+") "+u.word+" { print a; a = a; }", u.words[1:2], told(0, 1, api.Show{Type: u.Type, Bits: u.words[1]}))
		wantRun(t, "func f(a "+u.word+") "+u.word+" { if false { return a; } while false { return a; } }", u.words[1:2], told(0, 1))
		wantRun(t, "func f(a "+u.word+") "+u.word+" { print g(a); return g(a); } func g(a "+u.word+") "+u.word+" { if false { return a; } }", u.words[1:2], told(0, 2, api.Show{Type: u.Type}))
	}
	wantRun(t, "func f() i64 { while true { break; } }", nil, told(0, 1))
	wantRun(t, "func f() i64 { if true { print 1; } }", nil, told(0, 1, whole(1)...))
	wantRun(t, "func f() i64 { return 5 + g(1, 2) + 6; } func g(a i64, b i64) i64 { var c i64 = a; }", nil, told(11, 2))
}

func TestPrint(t *testing.T) {
	wantShow(t, "print -5i32;", api.I32, minus(5))
	wantShow(t, "print -5;", api.I64, minus(5))
	wantShow(t, "print -0.0;", api.F64, 1<<63)
	wantShow(t, "print 0.0 / 0.0;", api.F64, 0x7ff8000000000000)
	// The type is that of what is printed, not of what it is made of.
	wantShow(t, "print 1 < 2;", api.Bool, 1)
	wantShow(t, "print u8(300);", api.U8, 44)
	wantShow(t, "print f64(3u8);", api.F64, bits(3))
	wantShow(t, "print !true || 1.5 > 0.5;", api.Bool, 1)
	wantShows(t, "print 3; print 1; print 2; print 2;", 3, 1, 2, 2)
	for _, u := range types {
		for _, w := range u.words {
			wantRun(t, "func f(a "+u.word+") i64 { print a; print a; }", []uint64{w}, told(0, 1, api.Show{Type: u.Type, Bits: w}, api.Show{Type: u.Type, Bits: w}))
		}
	}
}

func TestDo(t *testing.T) {
	wantShows(t, "n(1); n(2); print 3;", 1, 2, 3)
	wantShows(t, "var i i64 = 0; while i < 2 { pair(i, n(7)); i = i + 1; }", 7, 7, 7, 17)
	wantShows(t, "var a i64 = 5; n(7) ; print a + n(1);", 7, 1, 6)
}

// A function's parameters and variables are its own, anew in each call.
func TestLocalsOfCalls(t *testing.T) {
	wantRun(t, "func f(a i64) i64 { var b i64 = a * 10; var l[2] i64; l[0] = a; if a > 0 { f(a - 1); } print a; print b; print l[0]; print l[1]; l[1] = 7; a = 99; b = 99; }", []uint64{2},
		told(0, 3, whole(0, 0, 0, 0, 1, 10, 1, 0, 2, 20, 2, 0)...))
	wantRun(t, "func f(a i64) i64 { g(a); return a; } func g(a i64) i64 { a = a + 1; print a; return a; }", []uint64{5}, told(5, 2, whole(6)...))
	wantRun(t, "func f() i64 { g(true); g(false); } func g(p bool) i64 { var a[3] i64; var b i64 = 1; print a[0] + a[2]; if p { a[0] = 5; a[2] = 6; b = 7; } }", nil, told(0, 2, whole(0, 0)...))
	wantRun(t, "func f(a i64) i64 { var l[5] i64; l[4] = a; var s i64 = 0; s = g(a, l[4]) + l[4]; return s + l[0]; } func g(a i64, b i64) i64 { var x i64 = h(b); var y i64 = h(a); return x * 100 + y; } func h(a i64) i64 { var m[9] i64; m[8] = a; m[0] = a * 2; return m[0] + m[8]; }",
		[]uint64{3}, told(912, 3))
	// What is half reckoned where a call is made is its own call's, too.
	wantRun(t, "func f(n i64) i64 { if n == 0 { return 1; } return n * 10 + (f(n - 1) * 2 - (n + f(n - 1))); }", []uint64{3}, told(55, 4))
}
