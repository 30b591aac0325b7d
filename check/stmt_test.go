package check_test

import (
	"testing"

	"smithy/api"
)

func TestVar(t *testing.T) {
	wantFaultIn(t, api.ErrName, "var a i64 = @y;")
	wantFaultIn(t, api.ErrName, "var a i64 = @a;")
	wantFaultIn(t, api.ErrType, "@var a i64 = true;")
	wantFaultIn(t, api.ErrName, "@var n i64 = 1;")
	wantFaultIn(t, api.ErrName, "@var ns i64 = 1;")
	// In this order.
	wantFaultIn(t, api.ErrName, "var n bool = @y;")
	wantFaultIn(t, api.ErrType, "@var n bool = 1;")
	for _, u := range types {
		for _, v := range types {
			wantIf(t, u.Type == v.Type, "@var a "+u.word+" = "+v.literal+";")
			wantIf(t, u.Type == v.Type, "@var a "+u.word+" = "+v.variable+";")
		}
	}
}

func TestArray(t *testing.T) {
	wantFaultIn(t, api.ErrName, "@var n[3] i64;")
	wantFaultIn(t, api.ErrName, "@var ns[3] u8;")
	wantFaultIn(t, api.ErrName, "var a[1] u8; @var a[1] u8;")
	for _, u := range types {
		wantNoneIn(t, "var a[256] "+u.word+"; a[0] = "+u.literal+";")
	}
}

func TestSet(t *testing.T) {
	wantFaultIn(t, api.ErrName, "@a = 1;")
	wantFaultIn(t, api.ErrName, "@none = 1;")
	wantFaultIn(t, api.ErrType, "@ns = 1;")
	wantFaultIn(t, api.ErrName, "n = @y;")
	wantFaultIn(t, api.ErrType, "@n = true;")
	// In this order.
	wantFaultIn(t, api.ErrName, "@a = y;")
	wantFaultIn(t, api.ErrType, "@ns = y;")
	wantFaultIn(t, api.ErrType, "@ns = true;")
	wantFaultIn(t, api.ErrType, "n = true @+ 1;")
	for _, u := range types {
		for _, v := range types {
			wantIf(t, u.Type == v.Type, "@"+u.variable+" = "+v.literal+";")
			wantIf(t, u.Type == v.Type, "@"+u.variable+" = "+v.array+"[0];")
		}
	}
}

func TestPut(t *testing.T) {
	wantFaultIn(t, api.ErrName, "@a[0] = 1;")
	wantFaultIn(t, api.ErrName, "@two[0] = 1;")
	wantFaultIn(t, api.ErrType, "@n[0] = 1;")
	wantFaultIn(t, api.ErrName, "ns[@y] = 1;")
	wantFaultIn(t, api.ErrType, "ns[@true] = 1;")
	wantFaultIn(t, api.ErrName, "ns[0] = @y;")
	wantFaultIn(t, api.ErrType, "@ns[0] = true;")
	// In this order.
	wantFaultIn(t, api.ErrName, "@a[y] = z;")
	wantFaultIn(t, api.ErrType, "@n[y] = z;")
	wantFaultIn(t, api.ErrType, "@n[true] = true;")
	wantFaultIn(t, api.ErrName, "ns[@y] = z;")
	wantFaultIn(t, api.ErrName, "ns[@y] = true;")
	wantFaultIn(t, api.ErrType, "ns[@u] = z;")
	wantFaultIn(t, api.ErrType, "ns[@u] = true;")
	wantFaultIn(t, api.ErrType, "ns[0] = 1 @+ u;")
	// An index's place is its own node's.
	wantFaultIn(t, api.ErrType, "ns[u @+ 1u8] = 1;")
	wantFaultIn(t, api.ErrType, "ns[ (@us[0]) ] = 1;")
	for _, u := range types {
		wantIf(t, u.Type == api.I64, "us[@"+u.variable+"] = 1u8;")
		for _, v := range types {
			wantIf(t, u.Type == v.Type, "@"+u.array+"[n] = "+v.variable+";")
		}
	}
}

func TestIf(t *testing.T) {
	wantFaultIn(t, api.ErrName, "if @y {}")
	wantFaultIn(t, api.ErrType, "if @n {}")
	wantFaultIn(t, api.ErrType, "if n @+ 1 {}")
	wantFaultIn(t, api.ErrName, "if b { print @y; }")
	wantFaultIn(t, api.ErrName, "if b {} else { print @y; }")
	wantFaultIn(t, api.ErrName, "if b {} else if @y {} else {}")
	wantFaultIn(t, api.ErrType, "if b {} else if @n {} else {}")
	wantFaultIn(t, api.ErrName, "if b {} else if b {} else { @y = 1; }")
	// In this order.
	wantFaultIn(t, api.ErrType, "if @n { print y; } else { print z; }")
	wantFaultIn(t, api.ErrName, "if n && @y { print z; }")
	wantFaultIn(t, api.ErrName, "if b { print @y; } else { print z; }")
	for _, u := range types {
		wantIf(t, u.Type == api.Bool, "if @"+u.variable+" {}")
		wantIf(t, u.Type == api.Bool, "if @"+u.literal+" {} else {}")
	}
}

func TestWhile(t *testing.T) {
	wantFaultIn(t, api.ErrName, "while @y {}")
	wantFaultIn(t, api.ErrType, "while @n {}")
	wantFaultIn(t, api.ErrType, "while n @- 1 {}")
	wantFaultIn(t, api.ErrName, "while b { print @y; }")
	wantFaultIn(t, api.ErrType, "while @n { print y; }")
	for _, u := range types {
		wantIf(t, u.Type == api.Bool, "while @"+u.variable+" {}")
	}
}

func TestBreakAndContinue(t *testing.T) {
	for _, s := range []string{"break;", "continue;"} {
		wantFaultIn(t, api.ErrBreak, "@"+s)
		wantFaultIn(t, api.ErrBreak, "if b { @"+s+" }")
		wantFaultIn(t, api.ErrBreak, "if b {} else { @"+s+" }")
		wantFaultIn(t, api.ErrBreak, "while b {} @"+s)
		wantFaultIn(t, api.ErrBreak, "while b { "+s+" } if b { @"+s+" }")
		wantFaultIn(t, api.ErrBreak, "while b { while b { "+s+" } } @"+s)
		wantFault(t, api.ErrBreak, "func f() i64 { while true { "+s+" } } func g() i64 { @"+s+" }")
		wantNoneIn(t, "while b { "+s+" }")
		wantNoneIn(t, "while b { "+s+" "+s+" print 1; "+s+" }")
		wantNoneIn(t, "while b { if b { "+s+" } else if b { "+s+" } else { "+s+" } }")
		wantNoneIn(t, "while b { while b { "+s+" } "+s+" }")
		wantNoneIn(t, "if b { while b { "+s+" } }")
	}
}

func TestReturn(t *testing.T) {
	wantFaultIn(t, api.ErrName, "return @y;")
	wantFaultIn(t, api.ErrType, "@return true;")
	wantFaultIn(t, api.ErrName, "return true && @y;")
	wantFaultIn(t, api.ErrType, "while b { @return b; }")
	for _, u := range types {
		for _, v := range types {
			src := "func f() " + u.word + " { @return " + v.literal + "; }"
			if u.Type != v.Type {
				wantFault(t, api.ErrType, src)
				continue
			}
			src, _ = marked(t, src)
			wantNone(t, src)
		}
	}
}

func TestPrintAndDo(t *testing.T) {
	wantFaultIn(t, api.ErrName, "print @y;")
	wantFaultIn(t, api.ErrType, "print @ns;")
	wantFaultIn(t, api.ErrName, "@y();")
	wantFaultIn(t, api.ErrType, "@two();")
	for _, u := range types {
		wantNoneIn(t, "print "+u.variable+"; print "+u.literal+"; print "+u.array+"[0];")
	}
	wantNoneIn(t, "none(); two(1, true); f(b, u, k, n, x);")
}

// A statement ahead of another one is told first; nothing is told of those behind.
func TestStatementsInOrder(t *testing.T) {
	wantFaultIn(t, api.ErrType, "print 1; @n = true; print y; break;")
	wantFaultIn(t, api.ErrBreak, "@break; print y; n = true;")
	wantFaultIn(t, api.ErrName, "if b { while b { print @y; } n = true; } break;")
	// What stands behind a return, and in a branch that is never taken, is gone through, too.
	wantFaultIn(t, api.ErrName, "return 1; print @y;")
	wantFaultIn(t, api.ErrName, "if false { print @y; }")
	wantFaultIn(t, api.ErrType, "while b { break; @n = true; }")
}
