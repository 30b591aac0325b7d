package mean_test

import (
	"testing"

	"smithy/api"
)

func TestVar(t *testing.T) {
	wantShows(t, "var a i64 = 5; print a;", 5)
	wantShows(t, "var a i64 = 5; var b i64 = a + 1; print a; print b;", 5, 6)
	// Its expression is reckoned once, where it stands.
	wantShows(t, "print 1; var a i64 = n(2); print 3; print a; print a;", 1, 2, 3, 2, 2)
	// Anew each time round.
	wantShows(t, "var i i64 = 0; while i < 3 { var a i64 = i * 10; print a; a = 99; i = i + 1; }", 0, 10, 20)
	// A name that is taken again is another variable, of another type too.
	wantShows(t, "if true { var a i64 = 1; print a; } if true { var a i64 = 2; print a; } var a i64 = 3; print a;", 1, 2, 3)
	wantShows(t, "var c i64 = 7; if true { var a i64 = 1; a = 5; } if true { var b i64 = 2; var a u8 = 3u8; b = b + i64(a); print b; } print c;", 5, 7)
}

func TestSet(t *testing.T) {
	wantShows(t, "var a i64 = 5; a = 6; print a; a = a * a; print a;", 6, 36)
	wantShows(t, "var a i64 = 1; var b i64 = 2; a = b; b = 3; print a; print b;", 2, 3)
	// What is set in an inner block stays set behind it.
	wantShows(t, "var a i64 = 1; if true { a = 2; if true { a = a + 5; } } print a;", 7)
}

func TestArray(t *testing.T) {
	wantShows(t, "var a[3] i64; print a[0]; print a[1]; print a[2];", 0, 0, 0)
	wantShows(t, "var a[3] i64; a[1] = 5; print a[0]; print a[1]; print a[2]; a[1] = 6; a[2] = 7; print a[1]; print a[2];", 0, 5, 0, 6, 7)
	// Arrays and variables about it are others.
	wantShows(t, "var a i64 = 1; var b[2] i64; var c i64 = 3; var d[2] i64; b[0] = 10; b[1] = 11; d[0] = 20; d[1] = 21; print a; print b[0]; print b[1]; print c; print d[0]; print d[1];", 1, 10, 11, 3, 20, 21)
	// All elements are 0 each time it is declared.
	wantShows(t, "var i i64 = 0; while i < 3 { var a[2] i64; print a[0] + a[1]; a[0] = 7; a[1] = 8; print a[0] + a[1]; i = i + 1; }", 0, 15, 0, 15, 0, 15)
	wantShows(t, "if true { var a[2] i64; a[1] = 5; } if true { var a[2] i64; print a[1]; }", 0)
	// The greatest one, to its last element.
	wantShows(t, "var a[256] i64; var i i64 = 0; while i < 256 { a[i] = i; i = i + 1; } print a[0]; print a[255]; print a[128];", 0, 255, 128)
	for _, u := range types {
		wantShow(t, "var a[1] "+u.word+"; print a[0];", u.Type, 0)
	}
}

// All words of a function that may have as many as there may be are its own.
func TestGreatestFrame(t *testing.T) {
	src := "func f() i64 { var a[256] i64; var b[256] i64; var c[256] i64; var d[254] i64; var i i64 = 0; var s i64 = 0; " +
		"while i < 254 { a[i] = i; b[i] = i + 1000; c[i] = i + 2000; d[i] = i + 3000; i = i + 1; } " +
		"i = 0; while i < 254 { if a[i] != i || b[i] != i + 1000 || c[i] != i + 2000 || d[i] != i + 3000 { print i; } i = i + 1; } return b[255] + d[253]; }"
	wantRun(t, src, nil, many, 1, told(3253, 511, 1))
	wantRun(t, "func f() i64 {"+manyVars(64)+" }", nil, 1, 1, told(0, 1, 1, whole(upTo(64)...)...))
}

// manyVars declares so many variables, then prints all of them.
func manyVars(n int) string {
	declared, printed := "", ""
	for i := range n {
		name := "v" + string(rune('a'+i/10)) + string(rune('a'+i%10))
		declared += " var " + name + " i64 = " + times("1 + ", i) + "0;"
		printed += " print " + name + ";"
	}
	return declared + printed
}

func upTo(n int) []int {
	var l []int
	for i := range n {
		l = append(l, i)
	}
	return l
}

func TestPut(t *testing.T) {
	wantShows(t, "ns[2] = 5; print ns[2]; print ns[0];", 5, 0)
	// The index, then the new worth, once each.
	wantShows(t, "ns[n(1)] = n(7); print ns[1];", 1, 7, 7)
	// What the index says is asked ahead of what the new worth changes.
	wantShows(t, "var i i64 = 0; ns[i] = 4; ns[ns[i] - 3] = ns[0] + 1; print ns[0]; print ns[1];", 4, 5)
	// The element's new worth may be made of its old one, and of others.
	wantShows(t, "ns[0] = 1; ns[1] = ns[0] + 1; ns[0] = ns[0] + ns[1]; print ns[0];", 3)
	for _, u := range types {
		wantRun(t, "func f(a "+u.word+") "+u.word+" { var l[2] "+u.word+"; l[1] = a; return l[1]; }", u.words[1:2], 1, 1, told(u.words[1], 1, 1))
	}
}

func TestIf(t *testing.T) {
	wantShows(t, "if true { print 1; } print 2;", 1, 2)
	wantShows(t, "if false { print 1; } print 2;", 2)
	wantShows(t, "if true { print 1; } else { print 2; } print 3;", 1, 3)
	wantShows(t, "if false { print 1; } else { print 2; } print 3;", 2, 3)
	wantShows(t, "if false { print 1; } else { } print 3;", 3)
	wantShows(t, "if true { } else { print 2; } print 3;", 3)
	for i, want := range [][]int{{1, 9}, {2, 9}, {3, 9}, {4, 9}} {
		first, second, third := i == 0, i <= 1, i <= 2
		wantShows(t, "if "+truth(first)+" { print 1; } else if "+truth(second)+" { print 2; } else if "+truth(third)+" { print 3; } else { print 4; } print 9;", want...)
	}
	// No condition is looked at behind the one that holds, and each one once.
	wantShows(t, "if n(1) == 0 { print 10; } else if n(2) == 2 { print 20; } else if n(3) == 3 { print 30; } print 9;", 1, 2, 20, 9)
	wantShows(t, "if true { if false { print 1; } else { print 2; if true { print 3; } print 4; } print 5; } print 6;", 2, 3, 4, 5, 6)
	// A condition that its own block changes is not looked at again.
	wantShows(t, "var a bool = true; if a { a = false; print 1; } else { print 2; }", 1)
}

func truth(b bool) string {
	if b {
		return "true"
	}
	return "false"
}

func TestWhile(t *testing.T) {
	wantShows(t, "while false { print 1; } print 2;", 2)
	wantShows(t, "var i i64 = 0; while i < 3 { print i; i = i + 1; } print 9;", 0, 1, 2, 9)
	// The condition is looked at each time, also when it ends the loop.
	wantShows(t, "var i i64 = 0; while n(i) < 2 { i = i + 1; } print 9;", 0, 1, 2, 9)
	wantShows(t, "var i i64 = 0; while i < 2 { var j i64 = 0; while j < 3 { print i * 10 + j; j = j + 1; } i = i + 1; }", 0, 1, 2, 10, 11, 12)
	// A loop that ended is begun anew.
	wantShows(t, "var i i64 = 0; while i < 4 { while i % 2 == 0 { i = i + 1; print i; } i = i + 1; }", 1, 3)
	wantShows(t, "var i i64 = 0; while i < 2 { i = i + 1; } while i < 4 { print i; i = i + 1; }", 2, 3)
}

func TestBreak(t *testing.T) {
	wantShows(t, "while true { print 1; break; print 2; } print 3;", 1, 3)
	wantShows(t, "var i i64 = 0; while true { if i == 2 { break; } print i; i = i + 1; } print 9;", 0, 1, 9)
	wantShows(t, "while true { if true { if false { } else { if true { print 1; break; } print 2; } print 3; } print 4; } print 5;", 1, 5)
	// It is the innermost loop that ends.
	wantShows(t, "var i i64 = 0; while i < 2 { while true { print i; break; } print 7; i = i + 1; } print 9;", 0, 7, 1, 7, 9)
	wantShows(t, "while true { while false { } print 1; break; } print 2;", 1, 2)
}

func TestContinue(t *testing.T) {
	wantShows(t, "var i i64 = 0; while i < 4 { i = i + 1; if i == 2 { continue; } print i; } print 9;", 1, 3, 4, 9)
	// The condition is looked at again.
	wantShows(t, "var i i64 = 0; while n(i) < 2 { i = i + 1; continue; print 7; } print 9;", 0, 1, 2, 9)
	wantShows(t, "var i i64 = 0; while i < 2 { i = i + 1; if true { if false { } else { continue; } print 1; } print 2; } print 3;", 3)
	// It is the innermost loop that goes round.
	wantShows(t, "var i i64 = 0; while i < 2 { var j i64 = 0; while j < 2 { j = j + 1; continue; } print i * 10 + j; i = i + 1; } print 9;", 2, 12, 9)
	wantShows(t, "var i i64 = 0; while i < 2 { i = i + 1; while false { } continue; print 1; } print 2;", 2)
	wantShows(t, "var i i64 = 0; while i < 5 { i = i + 1; if i == 2 { continue; } if i == 4 { break; } print i; } print 9;", 1, 3, 9)
}

func TestReturn(t *testing.T) {
	wantRun(t, "func f() i64 { print 1; return 5; print 2; }", nil, many, many, told(5, 1, 1, whole(1)...))
	wantRun(t, "func f() i64 { while true { if true { return 4; } print 1; } }", nil, many, many, told(4, 2, 1))
	wantRun(t, "func f() i64 { while true { while true { return 4; } } }", nil, many, many, told(4, 3, 1))
	wantRun(t, "func f() i64 { if true { return 1; } else { return 2; } return 3; }", nil, many, many, told(1, 1, 1))
	wantRun(t, "func f() i64 { if false { return 1; } else { return 2; } return 3; }", nil, many, many, told(2, 1, 1))
	// It ends its own call alone, also one that was begun within an expression or a loop.
	wantShows(t, "var i i64 = 0; while i < 2 { print 10 + n(i) * 2; i = i + 1; } print 9;", 0, 10, 1, 12, 9)
	wantRun(t, "func f() i64 { var a i64 = 10 + g(2) * 3; print a; return a; } func g(n i64) i64 { while true { if n == 2 { while n < 9 { return 7; } } } }", nil, many, many, told(31, 4, 2, whole(31)...))
	for _, u := range types {
		for _, w := range u.words {
			wantRun(t, "func f(a "+u.word+") "+u.word+" { return a; }", []uint64{w}, 1, 1, told(w, 1, 1))
		}
	}
}

// Behind its last statement a function tells 0 of its type.
func TestNoReturn(t *testing.T) {
	for _, u := range types {
		wantRun(t, "func f() "+u.word+" {}", nil, 1, 1, told(0, 1, 1))
		wantRun(t, "func f(a "+u.word+") "+u.word+" { print a; a = a; }", u.words[1:2], 1, 1, told(0, 1, 1, api.Show{Type: u.Type, Bits: u.words[1]}))
		wantRun(t, "func f(a "+u.word+") "+u.word+" { if false { return a; } while false { return a; } }", u.words[1:2], many, 1, told(0, 2, 1))
		wantRun(t, "func f(a "+u.word+") "+u.word+" { print g(a); return g(a); } func g(a "+u.word+") "+u.word+" { if false { return a; } }", u.words[1:2], many, many, told(0, 3, 2, api.Show{Type: u.Type}))
	}
	wantRun(t, "func f() i64 { while true { break; } }", nil, many, many, told(0, 2, 1))
	wantRun(t, "func f() i64 { 	if true { print 1; } }", nil, many, many, told(0, 1, 1, whole(1)...))
	wantRun(t, "func f() i64 { return 5 + g(1, 2) + 6; } func g(a i64, b i64) i64 { var c i64 = a; }", nil, many, many, told(11, 2, 2))
}

func TestPrint(t *testing.T) {
	wantShow(t, "print true;", api.Bool, 1)
	wantShow(t, "print false;", api.Bool, 0)
	wantShow(t, "print 255u8;", api.U8, 255)
	wantShow(t, "print -5i32;", api.I32, minus(5))
	wantShow(t, "print -5;", api.I64, minus(5))
	wantShow(t, "print 1.5;", api.F64, bits(1.5))
	wantShow(t, "print -0.0;", api.F64, 1<<63)
	wantShow(t, "print 0.0 / 0.0;", api.F64, 0x7ff8000000000000)
	// The type is that of what is printed, not of what it is made of.
	wantShow(t, "print 1 < 2;", api.Bool, 1)
	wantShow(t, "print u8(300);", api.U8, 44)
	wantShow(t, "print f64(3u8);", api.F64, bits(3))
	wantShow(t, "print !true || 1.5 > 0.5;", api.Bool, 1)
	wantShows(t, "print 3; print 1; print 2; print 2;", 3, 1, 2, 2)
}

func TestDo(t *testing.T) {
	wantShows(t, "n(1); n(2); print 3;", 1, 2, 3)
	wantShows(t, "var i i64 = 0; while i < 2 { pair(i, n(7)); i = i + 1; }", 7, 7, 7, 17)
	// What it tells is told to nobody.
	wantShows(t, "var a i64 = 5; n(7) ; print a + n(1);", 7, 1, 6)
}

// A function's parameters and variables are its own, anew in each call.
func TestLocalsOfCalls(t *testing.T) {
	wantRun(t, "func f(a i64) i64 { var b i64 = a * 10; var l[2] i64; l[0] = a; if a > 0 { f(a - 1); } print a; print b; print l[0]; print l[1]; l[1] = 7; a = 99; b = 99; }", []uint64{2}, many, many,
		told(0, 3, 3, whole(0, 0, 0, 0, 1, 10, 1, 0, 2, 20, 2, 0)...))
	// A parameter may be set; who called has its own.
	wantRun(t, "func f(a i64) i64 { g(a); return a; } func g(a i64) i64 { a = a + 1; print a; return a; }", []uint64{5}, many, many, told(5, 2, 2, whole(6)...))
	// A call finds nothing of one that ended.
	wantRun(t, "func f() i64 { g(true); g(false); } func g(p bool) i64 { var a[3] i64; var b i64 = 1; print a[0] + a[2]; if p { a[0] = 5; a[2] = 6; b = 7; } }", nil, many, many, told(0, 3, 2, whole(0, 0)...))
	// Functions of other layouts in turn.
	wantRun(t, "func f(a i64) i64 { var l[5] i64; l[4] = a; var s i64 = 0; s = g(a, l[4]) + l[4]; return s + l[0]; } func g(a i64, b i64) i64 { var x i64 = h(b); var y i64 = h(a); return x * 100 + y; } func h(a i64) i64 { var m[9] i64; m[8] = a; m[0] = a * 2; return m[0] + m[8]; }",
		[]uint64{3}, many, many, told(912, 4, 3))
}
