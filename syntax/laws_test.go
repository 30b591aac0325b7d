package syntax_test

import (
	"slices"
	"strings"
	"testing"

	"smithy/api"
	"smithy/syntax"
	"smithy/token"
)

// P3.1: the tree, node by node with all places, or the first token that opens too much; P3.3: what is told is right.
func TestMadeSources(t *testing.T) {
	deep, kinds := 0, map[api.NodeKind]int{}
	for m := range makers(4000) {
		src, places := laid(m.tokens, m.gap)
		if len(src) > api.MaxSource {
			continue
		}
		tree, f := syntax.Parse(src)
		if m.tooDeep >= 0 {
			deep++
			if want := (api.Fault{Err: api.ErrNest, At: places[m.tooDeep]}); f != want || len(tree.Nodes)+len(tree.Funcs) > 0 {
				t.Fatalf("Parse(%s): %v; want %v", short(src), f, want)
			}
			continue
		}
		if f != (api.Fault{}) || !equal(tree, placed(m.tree, places)) {
			t.Fatalf("Parse(%s): %v, another tree than was made", short(src), f)
		}
		if !syntax.Right(tree) {
			t.Fatalf("the tree of %s is not right", short(src))
		}
		for _, k := range kindsOf(tree) {
			kinds[k]++
		}
	}
	if deep < 400 || deep > 3600 {
		t.Errorf("%d of 4000 were too deep: too one-sided a test", deep)
	}
	for k := api.NodeLit; k <= api.NodeBlock; k++ {
		if kinds[k] < 100 {
			t.Errorf("only %d trees have a node of the kind %d", kinds[k], k)
		}
	}
}

// P3.3: blanks and remarks change nothing but places, of a fault, too.
func TestGapsChangeNothing(t *testing.T) {
	faults := 0
	for m := range makers(3000) {
		tokens := m.tokens
		if m.often(50) { // one token is another one, or is left out
			tokens = slices.Clone(tokens)
			i := m.below(len(tokens))
			tokens[i] = pick(&m.odds, allTokens()...)
			if m.often(30) {
				tokens = slices.Delete(tokens, i, i+1)
			}
		}
		src, places := laid(tokens, oneBlank)
		other, others := laid(tokens, m.gap)
		if len(other) > api.MaxSource {
			continue
		}
		tree, f := syntax.Parse(src)
		again, g := syntax.Parse(other)
		if f.Err != g.Err || !same(tree, again) {
			t.Fatalf("%s: %v, %s: %v", short(src), f, short(other), g)
		}
		if f.Err == api.OK {
			continue
		}
		faults++
		if i, j := slices.Index(places, f.At), slices.Index(others, g.At); i < 0 || i != j {
			t.Fatalf("%s: %v, %s: %v: tokens %d, %d", short(src), f, short(other), g, i, j)
		}
	}
	if faults < 300 || faults > 2700 {
		t.Errorf("%d of 3000 have faults: too one-sided a test", faults)
	}
}

// P3.3: a fault is at a token, or in one, or at the end; what has none is right, and its nodes are places of tokens.
func TestFaultsAreAtTokens(t *testing.T) {
	pieces := append(allTokens(), "256u8", "1.0e999", "0", "func f() i64 {", "if a {", "} else", "a = ", "var a[", "print (", "1.", "$", "((((((((((((((((((((((((((((((((")
	o := firstOdd
	seen := map[api.Errno]int{}
	for range 40000 {
		src := pick(&o, "", head, head+"if a { } else ", head+"print ")
		for range o.below(12) {
			src += pick(&o, pieces...) + pick(&o, " ", " ", "\n")
		}
		if o.often(50) {
			src += "}"
		}
		tree, f := syntax.Parse(src)
		seen[f.Err]++
		tokens, g := token.Scan(src)
		switch {
		case g.Err != api.OK:
			if f != g {
				t.Fatalf("Parse(%q): %v; token.Scan: %v", src, f, g)
			}
		case f.Err == api.OK:
			if f.At != 0 || !syntax.Right(tree) {
				t.Fatalf("Parse(%q): %v, and it is not right", src, f)
			}
		case !slices.ContainsFunc(tokens, func(k api.Token) bool { return k.At == f.At }):
			t.Fatalf("Parse(%q): %v, where no token is", src, f)
		}
		if f.Err != api.OK && len(tree.Nodes)+len(tree.Funcs) > 0 {
			t.Fatalf("Parse(%q): a tree beside a fault", src)
		}
	}
	for _, err := range []api.Errno{api.OK, api.ErrText, api.ErrSyntax, api.ErrLiteral, api.ErrNest} {
		if seen[err] < 20 {
			t.Errorf("the fault %d came only %d times", err, seen[err])
		}
	}
}

// P3.3: parentheses about an operand change nothing but places and what is open.
func TestParenthesesChangeNothing(t *testing.T) {
	for _, c := range [][2]string{
		{"a", "(a)"}, {"1 + 2", "(1) + (2)"}, {"1 + 2", "((1 + ((2))))"}, {"-a", "(-(a))"}, {"f(a, b)", "(f((a), ((b))))"}, {"a[i + 1]", "(a[((i) + 1)])"}, {"u8(a)", "(u8((a)))"},
		{"a || b && c == d + e * !f", "((a) || ((b) && ((c) == ((d) + ((e) * (!(f)))))))"}, {"a - b - c", "((a) - (b)) - (c)"}, {"true", "((true))"}, {"1.5", "(1.5)"},
	} {
		for _, stmt := range []string{"return E;", "print E;", "a = E;", "var a i64 = E;", "a[E] = E;", "if E {} else if E {}", "while E {}", "f(E);", "f(E, E);"} {
			few, many := inBody(strings.ReplaceAll(stmt, "E", c[0])), inBody(strings.ReplaceAll(stmt, "E", c[1]))
			if !same(taken(t, few), taken(t, many)) {
				t.Errorf("%s is not %s", few, many)
			}
		}
	}
}

// With as few parentheses as can be a tree is read again as it was.
func TestSpelledAgain(t *testing.T) {
	seen := 0
	for m := range makers(2000) {
		if m.tooDeep >= 0 {
			continue
		}
		if src := spelled(m.tree); len(src) <= api.MaxSource {
			seen++
			if !same(taken(t, src), m.tree) {
				t.Fatalf("%s is read as another tree", short(src))
			}
		}
	}
	if seen < 500 {
		t.Errorf("only %d trees were spelled", seen)
	}
}

// R4: nothing is kept from one call to the next, a fault's neither.
func TestCallsKnowNothingOfOneAnother(t *testing.T) {
	const src = "func f(a i64) i64 { return a + 1; }"
	want := taken(t, src)
	for _, other := range []string{inBody("print " + strings.Repeat("(", 40)), inBody("print " + strings.Repeat("(", 31)), "$", "func", inBody("print 256u8;")} {
		syntax.Parse(other)
		wantTree(t, src, want)
	}
}
