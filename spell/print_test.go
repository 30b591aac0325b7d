package spell_test

import (
	"testing"

	"smithy/api"
	"smithy/spell"
)

func TestExamples(t *testing.T) {
	wantPrint(t, taken(t, "func f(a i64)bool{return a<1+2*3;}"), "func f(a i64) bool {\n\treturn a < 1 + 2 * 3;\n}\n")
	for _, x := range []struct{ src, want string }{
		{"(a-b)-c", "a - b - c"},
		{"a-(b-c)", "a - (b - c)"},
		{"-(a+b)", "-(a + b)"},
		{"-(-a)", "--a"},
		{"!(a==b)&&c", "!(a == b) && c"},
		{"(a&&b)||c", "a && b || c"},
		{"5", "5"},
		{"5i32", "5i32"},
		{"0.5", "5.0e-01"},
		{"100.0", "1.0e+02"},
		{"1.5", "1.5e+00"},
	} {
		wantExpr(t, x.src, x.want)
	}
	wantBody(t, "if a {} else { if b {} }", "if a {", "} else if b {", "}")
}

func TestFunctions(t *testing.T) {
	wantPrint(t, api.Tree{}, "")
	wantPrint(t, api.Tree{Nodes: []api.Node{}, Funcs: []api.Func{}}, "")
	wantPrint(t, taken(t, "// nothing\n"), "")
	wantPrint(t, taken(t, "func f ( ) i64 { }"), "func f() i64 {\n}\n")
	wantPrint(t, taken(t, "func f(a bool)u8{}"), "func f(a bool) u8 {\n}\n")
	wantPrint(t, taken(t, "func f(a bool,b u8,c i32 , d i64,e f64)f64{}"), "func f(a bool, b u8, c i32, d i64, e f64) f64 {\n}\n")
	wantPrint(t, taken(t, "func a()bool{}func b()u8{}func c()i32{}\n\nfunc d()i64{x=1;}func e()f64{}"),
		"func a() bool {\n}\nfunc b() u8 {\n}\nfunc c() i32 {\n}\nfunc d() i64 {\n\tx = 1;\n}\nfunc e() f64 {\n}\n")
	// What chapter 5 would refuse is printed all the same: names twice, too many parameters and functions.
	wantPrint(t, taken(t, "func f(a i64,a i64)i64{}func f()i64{}"), "func f(a i64, a i64) i64 {\n}\nfunc f() i64 {\n}\n")
	wantPrint(t, taken(t, "func f(a u8"+times(",a u8", 99)+")u8{}"), "func f(a u8"+times(", a u8", 99)+") u8 {\n}\n")
	wantPrint(t, taken(t, times("func f()i64{}", 200)), times("func f() i64 {\n}\n", 200))
}

func TestStatements(t *testing.T) {
	wantBody(t, "")
	wantBody(t, "var a bool=true;var b u8=a;var c i32=a;var d i64=a;var e f64=a;",
		"var a bool = true;", "var b u8 = a;", "var c i32 = a;", "var d i64 = a;", "var e f64 = a;")
	wantBody(t, "var a[1]bool;var b[2]u8;var c[10]i32;var d[255]i64;var e [ 256 ] f64 ;",
		"var a [1]bool;", "var b [2]u8;", "var c [10]i32;", "var d [255]i64;", "var e [256]f64;")
	wantBody(t, "var a[007]bool;", "var a [7]bool;")
	wantBody(t, "a=(b);", "a = b;")
	wantBody(t, "a[((i))]=(b+c);a[b[c]]=d[e];a[b||c]=d||e;", "a[i] = b + c;", "a[b[c]] = d[e];", "a[b || c] = d || e;")
	wantBody(t, "f();f(a);f((a),b||c,-1);", "f();", "f(a);", "f(a, b || c, -1);")
	wantBody(t, "break;continue;", "break;", "continue;")
	wantBody(t, "return(a);return-a;return!a;", "return a;", "return -a;", "return !a;")
	wantBody(t, "print(a);print 1;print-1.5;", "print a;", "print 1;", "print -1.5e+00;")
}

func TestBlocks(t *testing.T) {
	wantBody(t, "while a{}", "while a {", "}")
	wantBody(t, "while(a||b){x=1;while c{break;}y=2;}",
		"while a || b {", "\tx = 1;", "\twhile c {", "\t\tbreak;", "\t}", "\ty = 2;", "}")
	wantBody(t, "if(a){}", "if a {", "}")
	wantBody(t, "if a{x=1;}if b{y=2;}", "if a {", "\tx = 1;", "}", "if b {", "\ty = 2;", "}")
	wantBody(t, "if a{if b{x=1;}}", "if a {", "\tif b {", "\t\tx = 1;", "\t}", "}")
	wantBody(t, "while a{if b{}else{}}", "while a {", "\tif b {", "\t} else {", "\t}", "}")
}

func TestElse(t *testing.T) {
	wantBody(t, "if a{}else{}", "if a {", "} else {", "}")
	wantBody(t, "if a{x=1;}else{y=2;z=3;}", "if a {", "\tx = 1;", "} else {", "\ty = 2;", "\tz = 3;", "}")
	// An if alone goes on behind else, whether or not braces stood about it.
	for _, src := range []string{"if a{x=1;}else if b{y=2;}", "if a{x=1;}else{if b{y=2;}}"} {
		wantBody(t, src, "if a {", "\tx = 1;", "} else if b {", "\ty = 2;", "}")
	}
	for _, src := range []string{
		"if a{}else if b{}else if c{x=1;}else{y=2;}", "if a{}else{if b{}else{if c{x=1;}else{y=2;}}}", "if a{}else if b{}else{if c{x=1;}else{y=2;}}",
	} {
		wantBody(t, src, "if a {", "} else if b {", "} else if c {", "\tx = 1;", "} else {", "\ty = 2;", "}")
	}
	// Two statements, or one that is no if, keep their braces.
	wantBody(t, "if a{}else{if b{}x=1;}", "if a {", "} else {", "\tif b {", "\t}", "\tx = 1;", "}")
	wantBody(t, "if a{}else{x=1;if b{}}", "if a {", "} else {", "\tx = 1;", "\tif b {", "\t}", "}")
	wantBody(t, "if a{}else{if b{}if c{}}", "if a {", "} else {", "\tif b {", "\t}", "\tif c {", "\t}", "}")
	wantBody(t, "if a{}else{while b{}}", "if a {", "} else {", "\twhile b {", "\t}", "}")
	wantBody(t, "if a{}else{while b{if c{}}}", "if a {", "} else {", "\twhile b {", "\t\tif c {", "\t\t}", "\t}", "}")
	wantBody(t, "if a{}else{f();}", "if a {", "} else {", "\tf();", "}")
	// The first block and a loop's keep theirs, too.
	wantBody(t, "if a{if b{}}else{x=1;}", "if a {", "\tif b {", "\t}", "} else {", "\tx = 1;", "}")
	wantBody(t, "while a{if b{}}", "while a {", "\tif b {", "\t}", "}")
	// Blocks within an if behind else stand as deep as their braces.
	wantBody(t, "while w{if a{}else if b{while c{x=1;}}else if d{if e{}else if g{y=2;}}}",
		"while w {", "\tif a {", "\t} else if b {", "\t\twhile c {", "\t\t\tx = 1;", "\t\t}", "\t} else if d {",
		"\t\tif e {", "\t\t} else if g {", "\t\t\ty = 2;", "\t\t}", "\t}", "}")
}

func TestExpressions(t *testing.T) {
	for _, x := range []struct{ src, want string }{
		{"a", "a"},
		{"((a))", "a"},
		{"a[1]", "a[1]"},
		{"a[b[c]]", "a[b[c]]"},
		{"a[(b+c)*d]", "a[(b + c) * d]"},
		{"f()", "f()"},
		{"f(a)", "f(a)"},
		{"f(a,(b),c+d)", "f(a, b, c + d)"},
		{"f(g(h()),a||b)", "f(g(h()), a || b)"},
		{"bool(a)", "bool(a)"},
		{"u8((a+b))", "u8(a + b)"},
		{"i32(i64(f64(a||b)))", "i32(i64(f64(a || b)))"},
		{"-a", "-a"},
		{"!a", "!a"},
		{"- - ! ! - a", "--!!-a"},
		{"-(5)", "-5"},
		{"-(a[1])", "-a[1]"},
		{"-(f(a))", "-f(a)"},
		{"-(u8(a))", "-u8(a)"},
		{"!(true)", "!true"},
		{"-(1.5)", "-1.5e+00"},
		{"-(a*b)", "-(a * b)"},
		{"(-a)*b", "-a * b"},
		{"a*(-b)", "a * -b"},
		{"a-(-b)", "a - -b"},
		{"a-(-(-b))", "a - --b"},
		{"a/(!b)", "a / !b"},
		{"!(a)==b", "!a == b"},
		{"!(a==b)", "!(a == b)"},
		{"(a<b)<c", "a < b < c"},
		{"a<(b<c)", "a < (b < c)"},
		{"(a==b)!=(c>=d)", "a == b != (c >= d)"},
		{"a&&(b&&c)", "a && (b && c)"},
		{"(a||b)||(c||d)", "a || b || (c || d)"},
		{"(a||b)&&(c||d)", "(a || b) && (c || d)"},
		{"(a&&b)||(c&&d)", "a && b || c && d"},
		{"((a+b)-c)|d^e", "a + b - c | d ^ e"},
		{"a|(b&c)", "a | b & c"},
		{"(a|b)&c", "(a | b) & c"},
		{"a<<(b<<c)>>d", "a << (b << c) >> d"},
		{"a<<b+c", "a << b + c"},
		{"a<<(b+c)", "a << (b + c)"},
		{"((((a*b)+c)<d)&&e)||g", "a * b + c < d && e || g"},
		{"a||(b&&(c<(d+(e*g))))", "a || b && c < d + e * g"},
		{"g*(e+(d<(c&&(b||a))))", "g * (e + (d < (c && (b || a))))"},
		{"((((a||b)&&c)<d)+e)*g", "((((a || b) && c) < d) + e) * g"},
	} {
		wantExpr(t, x.src, x.want)
	}
}

// Neither what is given nor an answer that was given is changed by a call.
func TestNothingIsKept(t *testing.T) {
	tree := taken(t, everything)
	// Spare room behind each list, which stays as it is.
	tree.Nodes = append(tree.Nodes, api.Node{Kind: api.NodeBreak})[:len(tree.Nodes)]
	for i, n := range tree.Nodes {
		tree.Nodes[i].Kids = append(n.Kids, 77)[:len(n.Kids)]
	}
	ahead, spare := copied(tree), tree.Nodes[:len(tree.Nodes)+1]
	first, _ := spell.Print(tree)
	other, _ := spell.Print(taken(t, "func other(a i64) i64 { return a; }"))
	second, _ := spell.Print(tree)
	spell.Same(tree, ahead)
	if first != printedEverything || second != first || other != "func other(a i64) i64 {\n\treturn a;\n}\n" {
		t.Error("an answer hangs on other calls")
	}
	if !alike(tree, ahead) || spare[len(tree.Nodes)].Kind != api.NodeBreak {
		t.Error("a tree is changed")
	}
	for i, n := range tree.Nodes {
		if n.At != ahead.Nodes[i].At || n.Kids[:len(n.Kids)+1][len(n.Kids)] != 77 {
			t.Errorf("node %d is changed", i)
		}
	}
}
