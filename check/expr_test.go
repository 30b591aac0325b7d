package check_test

import (
	"testing"

	"smithy/api"
	"smithy/scalar"
)

func TestName(t *testing.T) {
	wantFaultIn(t, api.ErrName, "print @y;")
	wantFaultIn(t, api.ErrName, "print @none;")
	wantFaultIn(t, api.ErrName, "print @f;")
	wantFaultIn(t, api.ErrName, "print @N;")
	for _, u := range types {
		wantFaultIn(t, api.ErrType, "print @"+u.array+";")
	}
}

func TestItem(t *testing.T) {
	wantFaultIn(t, api.ErrName, "print @y[0];")
	wantFaultIn(t, api.ErrName, "print @two[0];")
	wantFaultIn(t, api.ErrType, "print @n[0];")
	wantFaultIn(t, api.ErrName, "print ns[@y];")
	wantFaultIn(t, api.ErrType, "print ns[@u];")
	// In this order.
	wantFaultIn(t, api.ErrName, "print @y[z];")
	wantFaultIn(t, api.ErrType, "print @n[z];")
	wantFaultIn(t, api.ErrType, "print @n[true];")
	// An index's place is its own node's.
	wantFaultIn(t, api.ErrType, "print ns[1i32 @+ k];")
	wantFaultIn(t, api.ErrType, "print ns[((@us[0]))];")
	wantFaultIn(t, api.ErrType, "print us[us[@us[0]]];")
	for _, u := range types {
		wantIf(t, u.Type == api.I64, "print xs[@"+u.literal+"];")
		wantIf(t, u.Type == api.I64, "print xs[@"+u.array+"[0]];")
		for _, v := range types {
			wantIf(t, u.Type == v.Type, "@"+u.variable+" = "+v.array+"[n];")
		}
	}
}

func TestCall(t *testing.T) {
	wantFaultIn(t, api.ErrName, "print @y();")
	wantFaultIn(t, api.ErrName, "print @n(1);")
	wantFaultIn(t, api.ErrName, "print @ns(1);")
	wantFaultIn(t, api.ErrName, "print two(@y, true);")
	wantFaultIn(t, api.ErrName, "print two(1, @y);")
	for _, arguments := range []string{"", "1", "1, true, 1", "1, true, true, true"} {
		wantFaultIn(t, api.ErrType, "print @two("+arguments+");")
	}
	wantFaultIn(t, api.ErrType, "print @none(1);")
	wantFaultIn(t, api.ErrType, "print two(@true, true);")
	wantFaultIn(t, api.ErrType, "print two(1, @1);")
	// In this order.
	wantFaultIn(t, api.ErrName, "print @y(z);")
	wantFaultIn(t, api.ErrName, "print two(@y);")
	wantFaultIn(t, api.ErrName, "print two(@y, z);")
	wantFaultIn(t, api.ErrName, "print two(true, @z);")
	wantFaultIn(t, api.ErrName, "print none(@z);")
	wantFaultIn(t, api.ErrName, "print two(true, 1, 1, @z);")
	wantFaultIn(t, api.ErrType, "print @two(true);")
	wantFaultIn(t, api.ErrType, "print @two(true, 1, 1);")
	wantFaultIn(t, api.ErrType, "print two(@true, 1);")
	// An argument's place is its own node's.
	wantFaultIn(t, api.ErrType, "print two(1, n @+ 1);")
	wantFaultIn(t, api.ErrType, "print two((@u), true);")
	wantNoneIn(t, "print two(none(), two(1, b) == 0u8);")
}

// A parameter takes arguments of its own type alone, and a call is of its function's type.
func TestCallsOfAllTypes(t *testing.T) {
	for _, u := range types {
		for _, v := range types {
			src := "func f(a " + u.word + ") i64 { f(@" + v.literal + "); } "
			told := "func g() " + u.word + " {} func h() " + v.word + " { @return g(); }"
			if u.Type != v.Type {
				wantFault(t, api.ErrType, src)
				wantFault(t, api.ErrType, told)
				continue
			}
			src, _ = marked(t, src)
			wantNone(t, src)
			told, _ = marked(t, told)
			wantNone(t, told)
		}
	}
}

// All functions of a tree may be called from each of them, itself among them.
func TestCallsForwardAndBack(t *testing.T) {
	wantNone(t, "func f() i64 { return f() + g() + h(); } func g() i64 { return f() + g() + h(); } func h() i64 { return f() + g() + h(); }")
	wantFault(t, api.ErrType, "func f() i64 { return g(@1); } func g(a u8) i64 {}")
	wantFault(t, api.ErrName, "func f() i64 { return @g(); } func h() i64 {}")
}

func TestCast(t *testing.T) {
	wantFaultIn(t, api.ErrName, "print i64(@y);")
	wantFaultIn(t, api.ErrType, "print @i64(true);")
	wantFaultIn(t, api.ErrName, "print bool(@y);")
	wantFaultIn(t, api.ErrType, "print bool(1 @+ 1u8);")
	wantFaultIn(t, api.ErrType, "print u8(@bool(1));")
	for _, u := range types {
		for _, v := range types {
			numbers := u.Type != api.Bool && v.Type != api.Bool
			wantIf(t, numbers, "print @"+u.word+"("+v.variable+");")
			if !numbers {
				continue
			}
			// Its type is what it is turned into.
			for _, w := range types {
				wantIf(t, w.Type == u.Type, "@"+w.variable+" = "+u.word+"("+v.literal+");")
			}
		}
	}
}

func TestUnary(t *testing.T) {
	wantFaultIn(t, api.ErrName, "print -@y;")
	wantFaultIn(t, api.ErrName, "print !@y;")
	wantFaultIn(t, api.ErrType, "print -(1 @+ u);")
	for _, u := range types {
		wantIf(t, u.Type != api.Bool, "print @-"+u.variable+";")
		wantIf(t, u.Type != api.F64, "print @!"+u.variable+";")
		for _, v := range types {
			if u.Type != api.Bool {
				wantIf(t, u.Type == v.Type, "@"+v.variable+" = -"+u.variable+";")
			}
			if u.Type != api.F64 {
				wantIf(t, u.Type == v.Type, "@"+v.variable+" = !"+u.variable+";")
			}
		}
	}
}

func TestBinary(t *testing.T) {
	wantFaultIn(t, api.ErrName, "print @y + z;")
	wantFaultIn(t, api.ErrName, "print 1 + @z;")
	wantFaultIn(t, api.ErrName, "print true + @z;")
	wantFaultIn(t, api.ErrType, "print n @+ u;")
	wantFaultIn(t, api.ErrType, "print x @% x;")
	wantFaultIn(t, api.ErrType, "print n @+ u + y;")
	wantFaultIn(t, api.ErrName, "print n + u * @y;")
	wantFaultIn(t, api.ErrType, "print n + n @* u + n;")
	wantFaultIn(t, api.ErrType, "print n * n @+ u * u;")
	wantFaultIn(t, api.ErrType, "print (n < n) @< (n < n);")
	wantFaultIn(t, api.ErrType, "print n < n @< n;")
	for sign, op := range signs {
		for _, u := range types {
			told, there := scalar.Of(op, u.Type)
			for _, v := range types {
				wantIf(t, there && u.Type == v.Type, "print "+u.variable+" @"+sign+" "+v.variable+";")
				if there {
					wantIf(t, told == v.Type, "@"+v.variable+" = "+u.literal+" "+sign+" "+u.variable+";")
				}
			}
		}
	}
}

func TestBothAndEither(t *testing.T) {
	for _, sign := range []string{"&&", "||"} {
		wantFaultIn(t, api.ErrName, "print @y "+sign+" z;")
		wantFaultIn(t, api.ErrName, "print true "+sign+" @z;")
		wantFaultIn(t, api.ErrName, "print false "+sign+" @z;")
		wantFaultIn(t, api.ErrName, "print 1 "+sign+" @z;")
		wantFaultIn(t, api.ErrType, "print n @"+sign+" b "+sign+" z;")
		wantFaultIn(t, api.ErrType, "print b "+sign+" b @"+sign+" n;")
		for _, u := range types {
			wantIf(t, u.Type == api.Bool, "@"+u.variable+" = b "+sign+" b;")
			for _, v := range types {
				wantIf(t, u.Type == api.Bool && v.Type == api.Bool, "print "+u.variable+" @"+sign+" "+v.variable+";")
			}
		}
	}
}

// Operands go from left to right, each wholly ahead of the next.
func TestOperandsInOrder(t *testing.T) {
	for _, c := range []struct {
		err api.Errno
		src string
	}{
		{api.ErrName, "(1 + @y) * (z + 1)"},
		{api.ErrType, "(1 @+ u) * y"},
		{api.ErrName, "ns[@y] + z"},
		{api.ErrType, "ns[@u] + z"},
		{api.ErrType, "two(@u, b) + z"},
		{api.ErrType, "@two(1) + z"},
		{api.ErrType, "-(b @+ b) + z"},
		{api.ErrType, "@i64(b) + z"},
		{api.ErrName, "two(ns[two(@y, z)], z)"},
		{api.ErrType, "two(1 @+ u, z)"},
		{api.ErrName, "true + ns[b || @y]"},
		{api.ErrType, "1 + 2 * 3 - 4 / 5 @< true"},
	} {
		wantFaultIn(t, c.err, "print "+c.src+";")
	}
}
