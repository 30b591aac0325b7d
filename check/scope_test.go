package check_test

import (
	"testing"

	"smithy/api"
)

func TestSeenFromBehindItsDeclaration(t *testing.T) {
	wantFault(t, api.ErrName, "func f() i64 { @a = 1; var a i64 = 1; }")
	wantFault(t, api.ErrName, "func f() i64 { var a i64 = @a; }")
	wantFault(t, api.ErrName, "func f() i64 { @a[0] = 1; var a[1] i64; }")
	wantFault(t, api.ErrName, "func f() i64 { if true { print @a; } var a i64 = 1; }")
	wantFault(t, api.ErrName, "func f() i64 { while true { print @a; var a i64 = 1; } }")
	wantNone(t, "func f() i64 { var a i64 = 1; a = a + 1; var b i64 = a; return b; }")
	wantNone(t, "func f() i64 { var a[1] i64; a[0] = a[0]; return a[0]; }")
}

func TestSeenToTheEndOfItsBlock(t *testing.T) {
	for _, declaration := range []string{"var a i64 = 1;", "var a[3] i64;"} {
		wantFault(t, api.ErrName, "func f() i64 { if true { "+declaration+" } print @a; }")
		wantFault(t, api.ErrName, "func f() i64 { if true { "+declaration+" } else { print @a; } }")
		wantFault(t, api.ErrName, "func f() i64 { if true { "+declaration+" } else if @a {} }")
		wantFault(t, api.ErrName, "func f() i64 { if true {} else { "+declaration+" } print @a; }")
		wantFault(t, api.ErrName, "func f() i64 { if true {} else if true { "+declaration+" } else { print @a; } }")
		wantFault(t, api.ErrName, "func f() i64 { while true { "+declaration+" } @a = 1; }")
		wantFault(t, api.ErrName, "func f() i64 { while true { if true { "+declaration+" } print @a; } }")
		wantFault(t, api.ErrName, "func f() i64 { "+declaration+" } func g() i64 { print @a; }")
		// A block that was left takes nothing along that stands about it.
		wantFault(t, api.ErrName, "func f() i64 { "+declaration+" if true { if true { var b u8 = 1u8; } } @"+declaration+" }")
	}
	wantNone(t, "func f() i64 { var a i64 = 1; if a == 1 { while a < 2 { if true { a = 3; } else { print a; } } } return a; }")
	wantNone(t, "func f() i64 { var a i64 = 1; if true { var b i64 = a; } while true { var b u8 = 1u8; } return a; }")
}

func TestParametersAreSeenInTheWholeFunction(t *testing.T) {
	wantNone(t, "func f(a i64, b bool) i64 { if b { while b { if b { return a; } else { a = 2; } } } return a; }")
	wantFault(t, api.ErrName, "func f(a i64) i64 {} func g() i64 { return @a; }")
	wantFault(t, api.ErrName, "func g() i64 { return @a; } func f(a i64) i64 {}")
	wantFault(t, api.ErrName, "func f(a i64) i64 { @var a i64 = 1; }")
	wantFault(t, api.ErrName, "func f(a i64) i64 { @var a[1] u8; }")
	wantFault(t, api.ErrName, "func f(a i64) i64 { if true { @var a i64 = 1; } }")
}

// A name may not be taken while it is seen; later it may.
func TestNamesTakenAgain(t *testing.T) {
	wantFault(t, api.ErrName, "func f() i64 { var a i64 = 1; @var a i64 = 1; }")
	wantFault(t, api.ErrName, "func f() i64 { var a i64 = 1; @var a[2] u8; }")
	wantFault(t, api.ErrName, "func f() i64 { var a[2] u8; @var a u8 = 1u8; }")
	wantFault(t, api.ErrName, "func f() i64 { var a i64 = 1; if true { @var a u8 = 1u8; } }")
	wantFault(t, api.ErrName, "func f() i64 { var a i64 = 1; while true { if true {} else { @var a u8 = 1u8; } } }")
	wantFault(t, api.ErrName, "func f() i64 { if true { var a i64 = 1; } var a u8 = 1u8; if true { @var a i64 = 1; } }")
	wantNone(t, "func f() i64 { if true { var a i64 = 1; a = 2; } else { var a bool = true; a = false; } var a u8 = 1u8; a = 2u8; }")
	wantNone(t, "func f() i64 { while true { var a i64 = 1; } while true { var a[1] f64; a[0] = 0.5; } }")
	wantNone(t, "func f(a i64) i64 { var b i64 = a; } func g(b u8) u8 { var a u8 = b; return a; }")
	// What it stands for is what was declared last.
	wantFault(t, api.ErrType, "func f() i64 { if true { var a i64 = 1; } var a u8 = 1u8; @a = 1; }")
	wantFault(t, api.ErrType, "func f() i64 { if true { var a[1] u8; } var a u8 = 1u8; @a[0] = 1u8; }")
}

func TestNamesAreTheirBytes(t *testing.T) {
	long := times("n", api.MaxName-1)
	wantNone(t, "func f(a i64, A i64, a0 i64, _ i64, __ i64) i64 { var "+long+"a u8 = 1u8; var "+long+"b u8 = "+long+"a; }")
	wantFault(t, api.ErrName, "func f() i64 { var "+long+"a u8 = 1u8; "+"@var "+long+"a u8 = 2u8; }")
}

// Functions' names and locals' names know nothing of one another.
func TestFunctionsAndLocalsApart(t *testing.T) {
	wantNone(t, "func f(f i64) i64 { return f(f); }")
	wantNone(t, "func f(g i64) i64 { var f i64 = g(g); f = f + f(f); return f; } func g(f i64) i64 { var g[2] i64; return g[g(f)]; }")
	wantFault(t, api.ErrName, "func f() i64 { return @f; }")
	wantFault(t, api.ErrName, "func f(a i64) i64 { return @a(1); }")
	wantFault(t, api.ErrName, "func f() i64 { @g = 1; } func g() i64 {}")
}

func TestFunctionsNames(t *testing.T) {
	wantFault(t, api.ErrName, "func f() i64 {} func @f() i64 {}")
	wantFault(t, api.ErrName, "func f() i64 {} func g() u8 {} func @f(a u8) u8 {} func g() i64 {}")
	wantFault(t, api.ErrName, "func f() i64 {} func @f() i64 {} func f() i64 {}")
	// All of them ahead of what the functions hold.
	wantFault(t, api.ErrName, "func f() i64 { x = 1; } func g(a u8, a u8) i64 { break; } func @f() i64 {}")
	wantFault(t, api.ErrName, "func f(a u8, b u8, c u8, d u8, e u8, f u8, g u8, h u8, i u8) i64 {} func @f() i64 {}")
	wantNone(t, "func f() i64 {} func F() i64 {} func f0() i64 {} func _f() i64 {}")
}

func TestParametersNames(t *testing.T) {
	wantFault(t, api.ErrName, "func f(a i64, @a i64) i64 {}")
	wantFault(t, api.ErrName, "func f(a i64, b u8, @a bool, b u8) i64 {}")
	wantFault(t, api.ErrName, "func f(a i64, b u8, @b bool, a u8) i64 {}")
	wantFault(t, api.ErrName, "func f(a i64, @a i64) i64 { break; }")
	wantNone(t, "func f(a i64) i64 {} func g(a i64) i64 {}")
}

// Function by function: what is wrong in one is told ahead of what is wrong in the next, whatever it is.
func TestFunctionByFunction(t *testing.T) {
	const (
		params = "a u8, b u8, c u8, d u8, e u8, f u8, g u8, h u8, "
		twice  = "func t(a u8, a u8) u8 {} "
		many   = "func m(" + params + "i u8) u8 {} "
		inside = "func i() u8 { break; } "
	)
	wantFault(t, api.ErrName, "func f(a u8, @a u8) u8 {} "+many+inside)
	wantFault(t, api.ErrFrame, "func f("+params+"@i u8) u8 {} "+twice+inside)
	wantFault(t, api.ErrBreak, "func f() u8 { @break; } "+twice+many)
	wantFault(t, api.ErrFrame, "func f("+params+"@a u8) u8 { break; }")
	wantFault(t, api.ErrFrame, "func f(a u8, "+params[:len(params)-6]+"@h u8) u8 { break; }")
	// A call of a function that is wrong itself is told of, if that call is.
	wantFault(t, api.ErrType, "func f() u8 { return @t(1u8); } "+twice)
	wantFault(t, api.ErrName, "func f() u8 { return t(1u8, 2u8); } func t(a u8, @a u8) u8 {}")
	wantFault(t, api.ErrFrame, "func f() u8 { return m(1u8, 2u8, 3u8, 4u8, 5u8, 6u8, 7u8, 8u8, 9u8); } func m("+params+"@i u8) u8 {}")
}
