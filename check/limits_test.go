package check_test

import (
	"strconv"
	"strings"
	"testing"

	"smithy/api"
)

// functions are so many of them, from f0 on.
func functions(n int) string {
	var b strings.Builder
	for i := range n {
		b.WriteString("func f" + strconv.Itoa(i) + "() i64 {} ")
	}
	return b.String()
}

func TestMaxFuncs(t *testing.T) {
	info := wantNone(t, functions(api.MaxFuncs))
	if len(info.Locals) != 64 {
		t.Errorf("locals of %d functions; want 64", len(info.Locals))
	}
	wantNone(t, functions(api.MaxFuncs-1)+"func last() i64 { return f0() + f62() + last(); }")
	wantFault(t, api.ErrFrame, functions(api.MaxFuncs)+"func @last() i64 {}")
	wantFault(t, api.ErrFrame, functions(api.MaxFuncs)+"func @last() i64 {} func later() i64 {}")
	// Ahead of all other faults.
	wantFault(t, api.ErrFrame, functions(api.MaxFuncs)+"func @f0() i64 {}")
	wantFault(t, api.ErrFrame, "func f0() i64 { break; } "+functions(api.MaxFuncs-1)+"func @last() i64 {}")
	wantFault(t, api.ErrFrame, "func g(a u8, a u8) i64 {} "+functions(api.MaxFuncs-1)+"func @last() i64 {}")
	wantFault(t, api.ErrName, functions(api.MaxFuncs-1)+"func @f62() i64 {}")
}

// params are so many parameters, from p0 on.
func params(n int) string {
	var l []string
	for i := range n {
		l = append(l, "p"+strconv.Itoa(i)+" f64")
	}
	return strings.Join(l, ", ")
}

func TestMaxParams(t *testing.T) {
	wantNone(t, "func f("+params(api.MaxParams)+") f64 { return p0 + p7; }")
	wantFault(t, api.ErrFrame, "func f("+params(api.MaxParams)+", @last f64) i64 {}")
	wantFault(t, api.ErrFrame, "func f("+params(api.MaxParams)+", @last f64, later f64) i64 {}")
	// Ahead of the function's other faults, its parameters' names among them.
	wantFault(t, api.ErrFrame, "func f("+params(api.MaxParams)+", @p0 f64) i64 {}")
	wantFault(t, api.ErrFrame, "func f(p0 u8, "+params(api.MaxParams-1)+", @last f64) i64 {}")
	wantFault(t, api.ErrName, "func f("+params(api.MaxParams-1)+", @p0 f64) i64 {}")
}

// variables are so many scalars, from v0 on.
func variables(n int) string {
	var b strings.Builder
	for i := range n {
		b.WriteString("var v" + strconv.Itoa(i) + " i64 = 1; ")
	}
	return b.String()
}

func TestMaxLocals(t *testing.T) {
	info := wantNone(t, "func f() i64 { "+variables(api.MaxLocals)+"}")
	if len(info.Locals) != 1 || len(info.Locals[0]) != 64 || info.Locals[0][63] != (api.Local{Name: "v63", Type: api.I64}) {
		t.Errorf("locals %v; want 64", info.Locals)
	}
	wantFault(t, api.ErrFrame, "func f() i64 { "+variables(api.MaxLocals)+"@var last i64 = 1; }")
	wantFault(t, api.ErrFrame, "func f() i64 { "+variables(api.MaxLocals)+"@var last[1] u8; }")
	// Parameters are among them, and those that are seen no more.
	wantNone(t, "func f("+params(8)+") i64 { "+variables(56)+"}")
	wantFault(t, api.ErrFrame, "func f("+params(8)+") i64 { "+variables(56)+"@var last u8 = 1u8; }")
	wantNone(t, "func f() i64 { "+times("if true { var a i64 = 1; } ", 64)+"}")
	wantFault(t, api.ErrFrame, "func f() i64 { "+times("if true { var a i64 = 1; } ", 64)+"if true { @var a i64 = 1; } }")
	wantFault(t, api.ErrFrame, "func f() i64 { "+times("while true { var a[1] i64; } ", 64)+"@var a u8 = 1u8; }")
	// Each function has as many.
	wantNone(t, "func f() i64 { "+variables(64)+"} func g() i64 { "+variables(64)+"}")
}

// arrays are so many arrays of a size, from a0 on.
func arrays(n, size int, word string) string {
	var b strings.Builder
	for i := range n {
		b.WriteString("var a" + strconv.Itoa(i) + "[" + strconv.Itoa(size) + "] " + word + "; ")
	}
	return b.String()
}

func TestMaxFrame(t *testing.T) {
	for _, u := range types {
		// An element is a word, of whatever type it is.
		wantNone(t, "func f() i64 { "+arrays(4, 256, u.word)+"}")
		wantFault(t, api.ErrFrame, "func f() i64 { "+arrays(4, 256, u.word)+"@var last[1] bool; }")
		wantFault(t, api.ErrFrame, "func f() i64 { "+arrays(4, 256, u.word)+"@var last "+u.word+" = "+u.literal+"; }")
		wantFault(t, api.ErrFrame, "func f() i64 { "+arrays(3, 256, u.word)+"var b[255] u8; @var last[2] "+u.word+"; }")
	}
	// Scalars and parameters take a word each.
	wantNone(t, "func f() i64 { "+arrays(3, 256, "u8")+"var b[255] u8; var c u8 = 1u8; }")
	wantFault(t, api.ErrFrame, "func f() i64 { "+arrays(3, 256, "u8")+"var b[255] u8; var c u8 = 1u8; @var d u8 = 1u8; }")
	wantNone(t, "func f("+params(8)+") i64 { "+arrays(3, 256, "u8")+"var b[248] u8; }")
	wantFault(t, api.ErrFrame, "func f("+params(8)+") i64 { "+arrays(3, 256, "u8")+"@var b[249] u8; }")
	wantFault(t, api.ErrFrame, "func f(p f64) i64 { "+arrays(3, 256, "u8")+"@var b[256] u8; }")
	// So do those that are seen no more.
	wantNone(t, "func f() i64 { "+times("if true { var a[256] u8; } ", 4)+"}")
	wantFault(t, api.ErrFrame, "func f() i64 { "+times("if true { var a[256] u8; } ", 4)+"@var a[1] u8; }")
	wantNone(t, "func f() i64 { "+times("if true { var a[16] u8; } ", 64)+"}")
	wantFault(t, api.ErrFrame, "func f() i64 { "+times("if true { var a[16] u8; } ", 63)+"if true { @var a[17] u8; } }")
	// Each function has as many.
	wantNone(t, "func f() i64 { "+arrays(4, 256, "i64")+"} func g() i64 { "+arrays(4, 256, "i64")+"}")
}

// At a declaration ErrFrame is told last.
func TestFrameIsToldLast(t *testing.T) {
	for _, full := range []string{variables(64), "var v0 u8 = 1u8; var v1[255] u8; " + arrays(3, 256, "u8")} {
		wantFault(t, api.ErrName, "func f() i64 { "+full+"@var v1 i64 = 1; }")
		wantFault(t, api.ErrName, "func f() i64 { "+full+"@var v0[2] i64; }")
		wantFault(t, api.ErrType, "func f() i64 { "+full+"@var last u8 = true; }")
		wantFault(t, api.ErrName, "func f() i64 { "+full+"var last u8 = @y; }")
		wantFault(t, api.ErrFrame, "func f() i64 { "+full+"@var last u8 = 1u8; var later u8 = y; }")
	}
}
