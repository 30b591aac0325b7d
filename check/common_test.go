package check_test

import (
	"slices"
	"strconv"
	"strings"
	"testing"

	"smithy/api"
	"smithy/check"
	"smithy/syntax"
)

// taken is the tree of a source that must be one.
func taken(t *testing.T, src string) api.Tree {
	t.Helper()
	tree, f := syntax.Parse(src)
	if f != (api.Fault{}) {
		t.Fatalf("Parse(%s): %v; want a tree", short(src), f)
	}
	return tree
}

// marked is a source without its @, and where that stood.
func marked(t *testing.T, src string) (string, int) {
	t.Helper()
	at := strings.Index(src, "@")
	if at < 0 || strings.Count(src, "@") != 1 {
		t.Fatalf("%s: want one @", short(src))
	}
	return src[:at] + src[at+1:], at
}

// wantTreeFault asks for just this fault of a tree, and nothing beside it.
func wantTreeFault(t *testing.T, tree api.Tree, want api.Fault, what string) {
	t.Helper()
	info, f := check.Check(tree)
	if f != want {
		t.Errorf("%s: Check tells the fault %v; want %v", what, f, want)
	}
	if len(info.Types)+len(info.Means)+len(info.Locals) > 0 {
		t.Errorf("%s: beside a fault Check tells %v", what, info)
	}
}

// wantFault asks for a fault where @ stands in a source.
func wantFault(t *testing.T, err api.Errno, src string) {
	t.Helper()
	text, at := marked(t, src)
	wantTreeFault(t, taken(t, text), api.Fault{Err: err, At: at}, short(src))
}

// wantNone asks for no fault, and is what is told.
func wantNone(t *testing.T, src string) api.Info {
	t.Helper()
	tree := taken(t, src)
	info, f := check.Check(tree)
	if f != (api.Fault{}) {
		t.Errorf("%s: Check tells the fault %v; want none", short(src), f)
	} else if len(info.Types) != len(tree.Nodes) || len(info.Means) != len(tree.Nodes) || len(info.Locals) != len(tree.Funcs) {
		t.Errorf("%s: Check tells %v; want it for all nodes and functions", short(src), info)
	}
	return info
}

// within is a source with some statements in the body of a function f, among parameters b, u, k, n and x, arrays bs, us, ks, ns and xs, and functions beside it, of each type.
func within(stmts string) string {
	return "func none() i64 {} func two(a i64, b bool) u8 {} " +
		"func f(b bool, u u8, k i32, n i64, x f64) i64 { var bs[2] bool; var us[2] u8; var ks[2] i32; var ns[2] i64; var xs[2] f64; " +
		stmts + " }"
}

func wantFaultIn(t *testing.T, err api.Errno, stmts string) {
	t.Helper()
	wantFault(t, err, within(stmts))
}

func wantNoneIn(t *testing.T, stmts string) {
	t.Helper()
	wantNone(t, within(stmts))
}

// wantIf asks for ErrType at @, or, if it is to be taken, for no fault.
func wantIf(t *testing.T, taken bool, stmts string) {
	t.Helper()
	if !taken {
		wantFaultIn(t, api.ErrType, stmts)
		return
	}
	text, _ := marked(t, stmts)
	wantNoneIn(t, text)
}

func wantInfo(t *testing.T, tree api.Tree, want api.Info, what string) {
	t.Helper()
	info, f := check.Check(tree)
	if f != (api.Fault{}) || !equal(info, want) {
		t.Errorf("%s: Check tells %v, %v; want %v", what, info, f, want)
	}
}

func equal(a, b api.Info) bool {
	return slices.Equal(a.Types, b.Types) && slices.Equal(a.Means, b.Means) &&
		slices.EqualFunc(a.Locals, b.Locals, func(a, b []api.Local) bool { return slices.Equal(a, b) })
}

// copied is a tree of its own.
func copied(t api.Tree) api.Tree {
	t.Nodes, t.Funcs = slices.Clone(t.Nodes), slices.Clone(t.Funcs)
	for i := range t.Nodes {
		t.Nodes[i].Kids = slices.Clone(t.Nodes[i].Kids)
	}
	for i := range t.Funcs {
		t.Funcs[i].Params = slices.Clone(t.Funcs[i].Params)
	}
	return t
}

// short is a text as a remark of a test shows it.
func short(text string) string {
	if len(text) > 400 {
		text = text[:200] + " .. " + text[len(text)-150:]
	}
	return strconv.Quote(text)
}

func times(text string, n int) string { return strings.Repeat(text, n) }

// typed is a type with its word, and with a literal, a variable and an array of it (those of within).
type typed struct {
	api.Type
	word, literal, variable, array string
}

var types = []typed{
	{api.Bool, "bool", "true", "b", "bs"},
	{api.U8, "u8", "7u8", "u", "us"},
	{api.I32, "i32", "7i32", "k", "ks"},
	{api.I64, "i64", "7", "n", "ns"},
	{api.F64, "f64", "7.5", "x", "xs"},
}

var signs = map[string]api.Op{
	"+": api.OpAdd, "-": api.OpSub, "*": api.OpMul, "/": api.OpDiv, "%": api.OpRem, "&": api.OpAnd, "|": api.OpOr, "^": api.OpXor, "<<": api.OpShl, ">>": api.OpShr,
	"==": api.OpEq, "!=": api.OpNe, "<": api.OpLt, "<=": api.OpLe, ">": api.OpGt, ">=": api.OpGe,
}

// odds are numbers without a pattern, the same ones each time.
type odds uint64

const firstOdd odds = 0x9e3779b97f4a7c15

func (o *odds) word() uint64 {
	w := uint64(*o)
	w ^= w << 13
	w ^= w >> 7
	w ^= w << 17
	*o = odds(w)
	return w * 0x2545f4914f6cdd1d
}

func (o *odds) below(n int) int { return int(o.word() >> 33 % uint64(n)) }

// often tells true about so many times in a hundred.
func (o *odds) often(percent int) bool { return o.below(100) < percent }

func pick[T any](o *odds, l ...T) T { return l[o.below(len(l))] }
