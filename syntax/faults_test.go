package syntax_test

import (
	"strings"
	"testing"

	"smithy/api"
	"smithy/syntax"
)

func TestFaultsOfTokensGoFirst(t *testing.T) {
	wantFault(t, "$", api.ErrText, 0)
	wantFault(t, "x $", api.ErrText, 2)
	wantFault(t, "func func 5x", api.ErrText, 11)
	wantFault(t, inBody("print 256u8; print 1.;"), api.ErrText, 36)
	wantFault(t, inBody("print "+strings.Repeat("(", 50)+".5"), api.ErrText, 71)
	wantFault(t, inBody(strings.Repeat("n", 33)+" = 1;"), api.ErrText, 15)
	wantFault(t, "x "+strings.Repeat(" ", api.MaxSource-2)+"$", api.ErrLong, 0)
	wantFault(t, strings.Repeat(" ", api.MaxSource+1), api.ErrLong, 0)
	wantFault(t, strings.Repeat("$", api.MaxSource+1), api.ErrLong, 0)
	wantTree(t, strings.Repeat(" ", api.MaxSource), api.Tree{})
	wantFault(t, strings.Repeat(" ", api.MaxSource-1)+"x", api.ErrSyntax, api.MaxSource-1)
	wantFault(t, strings.Repeat(" ", api.MaxSource-4)+"func", api.ErrSyntax, api.MaxSource)
}

// A source that ends too early is refused at its end, behind all blanks and remarks.
func TestEndsTooEarly(t *testing.T) {
	const src = "func f ( a i64 , b u8 ) bool { var a i64 = - 1 ; var b [ 3 ] u8 ; a = i64 ( 1.5 ) ; b [ 0 ] = f ( a , b [ 1 ] ) ; f ( ) ; if a { break ; } else if ! b { continue ; } else { print ( a + b ) ; } while true { return false ; } }"
	tokens := strings.Split(src, " ")
	if !syntax.Right(taken(t, src)) {
		t.Error("it is not right")
	}
	for i := 1; i < len(tokens); i++ {
		for _, gap := range []string{"", " ", "\n// x }\n", "//"} {
			begun := strings.Join(tokens[:i], " ") + gap
			wantFault(t, begun, api.ErrSyntax, len(begun))
		}
	}
}

// wantWrong asks for a fault at each of some tokens behind what stands ahead, whatever follows.
func wantWrong(t *testing.T, ahead, tokens string) {
	t.Helper()
	for _, wrong := range strings.Fields(tokens) {
		wantFault(t, ahead+" "+wrong, api.ErrSyntax, len(ahead)+1)
		wantFault(t, ahead+" "+wrong+" ) {{{{ 256u8 else", api.ErrSyntax, len(ahead)+1)
	}
}

func TestWrongInFunctions(t *testing.T) {
	wantWrong(t, "", "x { } i64 ; var 1 1.5 ( true - =")
	wantWrong(t, "func", "func i64 ( 1 { ;")
	wantWrong(t, "func f", "{ i64 g [ = ; )")
	wantWrong(t, "func f(", ", i64 ( 1 var ; ]")
	wantWrong(t, "func f(a", ") , b [ func = 1 true")
	wantWrong(t, "func f(a i64", "b ; ] i64 = ( [")
	wantWrong(t, "func f(a i64,", ") , i64 1")
	wantWrong(t, "func f()", "{ x ( ; true ) , func")
	wantWrong(t, "func f() i64", "; i64 ( return func , [ x")
	wantWrong(t, "func f() i64 {}", "} ; x { i64 return")
}

func TestWrongInStatements(t *testing.T) {
	wantWrong(t, head, "; { ( [ 1 1.5 i64 else func true - ) ] , = ! ==")
	wantWrong(t, head+"var", "i64 if [ 1 = ; true (")
	wantWrong(t, head+"var a", "= ; b ( true 1 ] , var")
	wantWrong(t, head+"var a i64", "; [ == b ( , 1 }")
	wantWrong(t, head+"var a i64 = 1", "} var , = ) ] { 2 ! (")
	wantWrong(t, head+"var a[1", "; + , ) [ 2 }")
	wantWrong(t, head+"var a[1]", "; = b ] 1 true [")
	wantWrong(t, head+"var a[1] u8", "= } [ , ] b (")
	wantWrong(t, head+"a", "; b + == { ) } 1 , ] if i64 -")
	wantWrong(t, head+"a = 1", "} = ) b ! { ] , ( [ 1.5 print")
	wantWrong(t, head+"a[1", "; ) , = { } b")
	wantWrong(t, head+"a[1]", "; [ ( + == } , b ]")
	wantWrong(t, head+"a[1] = 2", "} = , ] {")
	wantWrong(t, head+"a()", "= + ( [ } b { , ) ==")
	wantWrong(t, head+"if a", "; b break else = } ) ! ,")
	wantWrong(t, head+"if a {", "else ; { ) func")
	wantWrong(t, head+"if a {}", "{ ; ( func ) = && 1")
	wantWrong(t, head+"if a {} else", "; while else a } ( print var")
	wantWrong(t, head+"if a {} else {}", "else { ;")
	wantWrong(t, head+"if a {} else if b {} else {}", "else { ;")
	wantWrong(t, head+"while a", "; b = } else break ,")
	wantWrong(t, head+"while a {}", "else { ; (")
	wantWrong(t, head+"break", "break } a 1 , ) (")
	wantWrong(t, head+"continue", "continue } a 1 = {")
	wantWrong(t, head+"return 1", "} return 2 , ) = {")
	wantWrong(t, head+"print 1", "} print 2 , ) = {")
	wantWrong(t, head+"}", "} ; x { else return")
}

func TestWrongInExpressions(t *testing.T) {
	for _, ahead := range []string{"var a i64 =", "a =", "a[", "a[1] =", "if", "while", "return", "print", "print 1 +", "print a &&", "print -", "print !", "print (", "print i64(", "print a[", "print f(1,", "f(1,", "f(-"} {
		wantWrong(t, head+ahead, "; ) ] } , = { + * == || && | ^ % << < var if while else func break return print")
	}
	for _, ahead := range []string{"f(", "print f("} {
		wantWrong(t, head+ahead, "; ] } , = { + * == || if var print")
	}
	for _, ahead := range []string{"print a", "print 1", "print 1.5", "print true", "print (a)", "print a[1]", "print f()", "print f(1)", "print u8(1)", "print a + b", "print -a"} {
		wantWrong(t, head+ahead, "b 1 1.5 true i64 ! = { } ) ] , if else print")
	}
	for _, ahead := range []string{"print 1", "print true", "print (a)", "print a[1]", "print f()", "print u8(1)", "print -1"} {
		wantWrong(t, head+ahead, "( [")
	}
	for _, ahead := range []string{"print i64", "print -u8", "print 1 + f64", "f(bool"} {
		wantWrong(t, head+ahead, "; ) + [ a 1 i64 { }")
	}
	wantWrong(t, head+"print (a", "; , ] } { = b")
	wantWrong(t, head+"print a[1", "; , ) } { = b")
	wantWrong(t, head+"print f(1", "; ] } { = b")
	wantWrong(t, head+"print i64(1", "; , ] } { = b")
	wantWrong(t, head+"print ((a)", "; , ]")
}
