package check_test

import (
	"testing"

	"smithy/api"
)

// ofChapter is the function that the chapter's examples stand in.
func ofChapter(stmts string) string { return "func f(p i64) i64 { " + stmts + " }" }

func TestExampleFaults(t *testing.T) {
	for _, c := range []struct {
		stmts string
		want  api.Fault
	}{
		{"var p i64 = 1;", api.Fault{Err: api.ErrName, At: 22}},
		{"var a bool = 1;", api.Fault{Err: api.ErrType, At: 22}},
		{"x = 1;", api.Fault{Err: api.ErrName, At: 22}},
		{"var a[2] u8; a = 1u8;", api.Fault{Err: api.ErrType, At: 35}},
		{"if p {}", api.Fault{Err: api.ErrType, At: 25}},
		{"break;", api.Fault{Err: api.ErrBreak, At: 22}},
		{"return true;", api.Fault{Err: api.ErrType, At: 22}},
		{"print p + 1i32;", api.Fault{Err: api.ErrType, At: 30}},
		{"print bool(p);", api.Fault{Err: api.ErrType, At: 28}},
		{"f();", api.Fault{Err: api.ErrType, At: 22}},
		{"f(true);", api.Fault{Err: api.ErrType, At: 24}},
		{"g(1);", api.Fault{Err: api.ErrName, At: 22}},
		{"print !1.5;", api.Fault{Err: api.ErrType, At: 28}},
		{"if true { var a u8 = 1u8; } print a;", api.Fault{Err: api.ErrName, At: 56}},
	} {
		// The chapter's function is one whose statements' first byte is at 22.
		src := "func f(p i64)  i64  { " + c.stmts + " }"
		wantTreeFault(t, taken(t, src), c.want, src)
	}
	wantNone(t, ofChapter("if true { var a u8 = 1u8; } var a i64 = 2;"))
}

func TestExampleInfo(t *testing.T) {
	src := ofChapter("return p % 2 + -1;")
	wantInfo(t, taken(t, src), api.Info{
		Types:  []api.Type{api.I64, api.I64, api.I64, api.I64, api.I64, api.I64, api.NoType, api.NoType},
		Means:  []int{0, -1, -1, -1, -1, -1, -1, -1},
		Locals: [][]api.Local{{{Name: "p", Type: api.I64}}},
	}, src)
}

// The faults of DOC.md's second example that are of this layer.
func TestExampleOfTheWhole(t *testing.T) {
	wantTreeFault(t, taken(t, "func f() i64 { return x; }"), api.Fault{Err: api.ErrName, At: 22}, "return x")
	wantNone(t, "func f(n i64) i64 { if n < 2 { return n; } return f(n - 1) + f(n - 2); }")
}
