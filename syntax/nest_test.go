package syntax_test

import (
	"strings"
	"testing"

	"smithy/api"
	"smithy/syntax"
)

// nested is something that opens one thing, again and again: the token that opens it stands at a place of first.
type nested struct {
	first, last string
	at          int
}

var nestedExprs = []nested{
	{"(", ")", 0}, {"f(", ")", 1}, {"f(1, ", ")", 1}, {"f(a, ", ", b)", 1}, {"a[", "]", 1}, {"i64(", ")", 3}, {"u8(", ")", 2}, {"-", "", 0}, {"!", "", 0}, {"- ", "", 0}, {"1 + (", ")", 4}, {"(", " + 1)", 0},
}

var nestedStmts = []nested{
	{"if a {", "}", 5}, {"while a {", "}", 8}, {"if a {", "} else {}", 5}, {"a = 1; if a { b[1] = 2; ", " break; } c = 1;", 12},
}

func (n nested) times(many int, inner string) string {
	return strings.Repeat(n.first, many) + inner + strings.Repeat(n.last, many)
}

func wantRight(t *testing.T, src string) {
	t.Helper()
	if !syntax.Right(taken(t, src)) {
		t.Errorf("the tree of %s is not right", short(src))
	}
}

// wantNested asks that so much may be opened by something, and that one more is refused at its token, whatever follows.
func wantNested(t *testing.T, n nested, may int, ahead, inner, behind string) {
	t.Helper()
	wantRight(t, ahead+n.times(may, inner)+behind)
	at := len(ahead) + may*len(n.first) + n.at
	for _, more := range []int{1, 2, 10} {
		wantFault(t, ahead+n.times(may+more, inner)+behind, api.ErrNest, at)
		wantFault(t, ahead+strings.Repeat(n.first, may+more), api.ErrNest, at)
	}
	wantFault(t, ahead+n.times(may+1, "else 256u8"), api.ErrNest, at)
}

func TestExpressionsOpened(t *testing.T) {
	for _, n := range nestedExprs {
		for _, stmt := range []string{"print E;", "return E;", "a = E;", "var a i64 = E;", "a[E] = 1;", "a[1] = E;", "print 1 * E + 2;", "if E {}", "while E {}"} {
			ahead, behind, _ := strings.Cut(stmt, "E")
			wantNested(t, n, 31, head+ahead, "1", behind+" }")
			wantNested(t, n, 31, "func f() i64 {} "+head+"print ((1)); "+ahead, "a", behind+" }")
			wantNested(t, n, 29, head+"if a { while b { "+ahead, "a", behind+" } } }")
		}
		wantNested(t, n, 30, head+"f(", "1", "); }")
		wantNested(t, n, 30, head+"f(1, ", "1", "); }")
		wantNested(t, n, 30, head+"if a {} else if ", "1", " {} }")
		wantNested(t, n, 31, head+"a[-1] = -1 + ", "1", "; }")
		for _, about := range nestedExprs {
			if about.last != "" { // a unary would end ahead of an operator
				wantNested(t, n, 20, head+"print "+strings.Repeat(about.first, 11), "1", strings.Repeat(about.last, 11)+"; }")
			}
		}
	}
}

func TestStatementsOpened(t *testing.T) {
	for _, n := range nestedStmts {
		wantNested(t, n, 31, head, "", " }")
		wantNested(t, n, 31, head, "a = b; a[i] = b; break; var a[3] u8; return 1;", " }")
		wantNested(t, n, 31, "func f(a i64, b u8) i64 { if a { while b {} } a = 1; ", "", " } func g() u8 { if a { if b { } } }")
		wantNested(t, n, 29, head+"if a { while b {", "", "} } }")
		wantNested(t, n, 29, head+"if a {} else if b {} else { ", "", " } }")
	}
}

// In the innermost block that there may be, all that opens something is one too many.
func TestInTheInnermostBlock(t *testing.T) {
	blocks := head + strings.Repeat("if a {", 31)
	closed := strings.Repeat("}", 32)
	for _, stmt := range []string{"", "a = b;", "a[i] = b;", "var c[5] u8;", "var c u8 = 1u8;", "print 1;", "return a + b * c;", "break;", "continue;"} {
		wantRight(t, blocks+stmt+closed)
	}
	for stmt, at := range map[string]int{
		"print (a);": 6, "print -a;": 6, "print !a;": 6, "print a[1];": 7, "print f(1);": 7, "print f();": 7, "print u8(a);": 8, "f();": 1, "f(1);": 1, "a[(i)] = b;": 2, "a[-i] = b;": 2, "a[b[i]] = c;": 3, "a[i] = (b);": 7, "a[i] = f();": 8, "a = i64(b);": 7,
		"if a {}": 5, "while a {}": 8, "if (a) {}": 3, "while -a {}": 6,
	} {
		wantFault(t, blocks+stmt+closed, api.ErrNest, len(blocks)+at)
	}
}

// Each if right behind else is open to the end of all that follows it.
func TestElseIfOpened(t *testing.T) {
	chain := nested{"if a {} else ", "", 13}
	for _, last := range []string{"if a {}", "{}", "{ break; }"} {
		wantRight(t, inBody(chain.times(30, last)))
	}
	wantRight(t, inBody(chain.times(31, "{}")))
	// The 32nd if is the 31st behind else, so that with the body 32 things are open, and its own block is one too many.
	for _, last := range []string{"if a {}", "{}", "if a {} else {}"} {
		wantFault(t, inBody(chain.times(32, last)), api.ErrNest, len(head)+31*13+5)
		wantFault(t, inBody(chain.times(50, last)), api.ErrNest, len(head)+31*13+5)
	}
	wantFault(t, inBody(chain.times(31, "if (a) {}")), api.ErrNest, len(head)+31*13+3)
	wantFault(t, inBody(chain.times(31, "if a {}")), api.ErrNest, len(head)+31*13+5)
	wantRight(t, inBody(chain.times(30, "if (a) { b = 1; }")))
	wantFault(t, inBody(chain.times(30, "if (a) { b = 1; if b {} }")), api.ErrNest, len(head)+30*13+21)
	deep := head + strings.Repeat("while a {", 30) + "if a {} else "
	wantRight(t, deep+"{}"+strings.Repeat("}", 31))
	wantFault(t, deep+"if a {}", api.ErrNest, len(deep)+5)
	wantFault(t, deep+"if a", api.ErrSyntax, len(deep)+4)
	// Behind the whole of it all are closed again.
	wantRight(t, inBody(chain.times(31, "{}")+chain.times(31, "{}")+"print ((1));"))
}

// What was closed is open no longer, so that much may stand one behind the other.
func TestClosedAgain(t *testing.T) {
	deep := strings.Repeat("(", 31) + "1" + strings.Repeat(")", 31)
	minus := strings.Repeat("-", 31) + "1"
	blocks := strings.Repeat("if a {", 31) + strings.Repeat("}", 31)
	for _, src := range []string{
		inBody("print " + deep + " + " + deep + " * " + deep + ";"),
		inBody("print " + minus + " + " + minus + " * " + deep + " - " + minus + ";"),
		inBody(strings.Repeat("print "+deep+"; a["+minus+"] = "+deep+";"+blocks, 20)),
		strings.Repeat(inBody(blocks+"print "+minus+";"), 20),
		inBody("f(" + deep[1:len(deep)-1] + ", " + minus[1:] + ");"),
		inBody("if " + deep + " { print " + deep[1:len(deep)-1] + "; } else { print " + minus[1:] + "; }"),
		inBody("while " + minus + " { print " + deep[1:len(deep)-1] + "; }"),
	} {
		wantRight(t, src)
	}
}

// A token that can't stand where too much is open already is a fault of syntax.
func TestDeepAndWrong(t *testing.T) {
	ahead := head + "print " + strings.Repeat("(", 31)
	for _, wrong := range []string{")", ";", "{", "*", "]", "var", "if", ","} {
		wantFault(t, ahead+wrong, api.ErrSyntax, len(ahead))
	}
	for _, wrong := range []string{"(", "[", ";", "{", "!", "]", "var", "if", ",", "b"} {
		wantFault(t, ahead+"1 "+wrong, api.ErrSyntax, len(ahead)+2)
	}
	wantFault(t, ahead+"a b(", api.ErrSyntax, len(ahead)+2)
	wantFault(t, ahead+"i64 1", api.ErrSyntax, len(ahead)+4)
	wantFault(t, ahead+"i64(", api.ErrNest, len(ahead)+3)
	wantFault(t, ahead+"256u8", api.ErrLiteral, len(ahead))
	blocks := head + strings.Repeat("if a {", 31)
	wantFault(t, blocks+"if a b", api.ErrSyntax, len(blocks)+5)
	wantFault(t, blocks+"while {", api.ErrSyntax, len(blocks)+6)
	wantFault(t, blocks+"{", api.ErrSyntax, len(blocks))
}
