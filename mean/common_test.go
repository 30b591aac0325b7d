package mean_test

import (
	"math"
	"slices"
	"strconv"
	"strings"
	"testing"

	"smithy/api"
	"smithy/mean"
	"smithy/syntax"
)

// many is more steps, and more depth, than any run needs that asks for neither.
const many = 1 << 20

// taken is the tree of a source that must be one.
func taken(t *testing.T, src string) api.Tree {
	t.Helper()
	tree, f := syntax.Parse(src)
	if f != (api.Fault{}) {
		t.Fatalf("Parse(%s): %v; want a tree", short(src), f)
	}
	return tree
}

// ran is the trace of a run that must not be refused.
func ran(t *testing.T, tree api.Tree, f int, args []uint64, steps, depth int, what string) api.Trace {
	t.Helper()
	trace, err := mean.Run(tree, f, args, steps, depth)
	if err != api.OK {
		t.Fatalf("%s: Run is refused with %d", what, err)
	}
	return trace
}

func same(a, b api.Trace) bool {
	return slices.Equal(a.Shows, b.Shows) && a.End == b.End && a.Value == b.Value && a.Trap == b.Trap && a.Steps == b.Steps && a.Depth == b.Depth
}

// wantRun asks for just this trace of the first function of a source.
func wantRun(t *testing.T, src string, args []uint64, steps, depth int, want api.Trace) {
	t.Helper()
	if trace := ran(t, taken(t, src), 0, args, steps, depth, short(src)); !same(trace, want) {
		t.Errorf("%s of %d with %d steps, depth %d: %v; want %v", short(src), args, steps, depth, trace, want)
	}
}

func told(value uint64, steps, depth int, shows ...api.Show) api.Trace {
	return api.Trace{Shows: shows, End: api.Told, Value: value, Steps: steps, Depth: depth}
}

func trapped(trap api.Trap, steps, depth int, shows ...api.Show) api.Trace {
	return api.Trace{Shows: shows, End: api.Trapped, Trap: trap, Steps: steps, Depth: depth}
}

func outOfSteps(steps, depth int, shows ...api.Show) api.Trace {
	return api.Trace{Shows: shows, End: api.Steps, Steps: steps, Depth: depth}
}

func tooDeep(steps, depth int, shows ...api.Show) api.Trace {
	return api.Trace{Shows: shows, End: api.Deep, Steps: steps, Depth: depth}
}

// whole is some numbers as they are shown.
func whole(l ...int) []api.Show {
	var shows []api.Show
	for _, n := range l {
		shows = append(shows, api.Show{Type: api.I64, Bits: uint64(n)})
	}
	return shows
}

func bits(x float64) uint64 { return math.Float64bits(x) }

func minus(n int) uint64 { return uint64(-n) }

// within is some statements in the body of a function, among arrays of each type and a function of each type that shows and tells its argument.
func within(stmts string) string {
	return "func f() i64 { var bs[2] bool; var us[2] u8; var ks[2] i32; var ns[3] i64; var xs[2] f64; " + stmts + " } " +
		"func b(a bool) bool { print a; return a; } func u(a u8) u8 { print a; return a; } func k(a i32) i32 { print a; return a; } " +
		"func n(a i64) i64 { print a; return a; } func x(a f64) f64 { print a; return a; } func pair(a i64, b i64) i64 { print a * 10 + b; return a; }"
}

// wantShows asks that statements come to the end of their function and show just these numbers.
func wantShows(t *testing.T, stmts string, l ...int) {
	t.Helper()
	trace := ran(t, taken(t, within(stmts)), 0, nil, many, many, stmts)
	if trace.End != api.Told || trace.Value != 0 || trace.Trap != api.NoTrap || !slices.Equal(trace.Shows, whole(l...)) {
		t.Errorf("%s: %v; want to be shown %d, and told 0", stmts, trace, l)
	}
}

// wantShow asks that one thing is shown.
func wantShow(t *testing.T, stmts string, want api.Type, word uint64) {
	t.Helper()
	trace := ran(t, taken(t, within(stmts)), 0, nil, many, many, stmts)
	if trace.End != api.Told || !slices.Equal(trace.Shows, []api.Show{{Type: want, Bits: word}}) {
		t.Errorf("%s: %v; want to be shown %x of type %d", stmts, trace, word, want)
	}
}

// wantTrap asks that statements end with a trap, and show these numbers ahead of it.
func wantTrap(t *testing.T, trap api.Trap, stmts string, l ...int) {
	t.Helper()
	trace := ran(t, taken(t, within(stmts)), 0, nil, many, many, stmts)
	if trace.End != api.Trapped || trace.Trap != trap || trace.Value != 0 || !slices.Equal(trace.Shows, whole(l...)) {
		t.Errorf("%s: %v; want the trap %d, and to be shown %d", stmts, trace, trap, l)
	}
}

// copied is a tree of its own.
func copied(t api.Tree) api.Tree {
	t.Nodes, t.Funcs = slices.Clone(t.Nodes), slices.Clone(t.Funcs)
	for i := range t.Nodes {
		t.Nodes[i].Kids = slices.Clone(t.Nodes[i].Kids)
	}
	for i := range t.Funcs {
		t.Funcs[i].Params = slices.Clone(t.Funcs[i].Params)
	}
	return t
}

// short is a text as a remark of a test shows it.
func short(text string) string {
	if len(text) > 1200 {
		text = text[:800] + " .. " + text[len(text)-300:]
	}
	return strconv.Quote(text)
}

func times(text string, n int) string { return strings.Repeat(text, n) }

// typed is a type with its word, what stands behind a literal of it, and words of it: the ends of the type, and some in between.
type typed struct {
	api.Type
	word, behind string
	words        []uint64
}

var types = []typed{
	{api.Bool, "bool", "", []uint64{0, 1}},
	{api.U8, "u8", "u8", []uint64{0, 1, 2, 7, 8, 100, 127, 128, 200, 255}},
	{api.I32, "i32", "i32", []uint64{0, 1, minus(1), 2, minus(7), 31, 33, 1000, 65536, math.MaxInt32, 1<<64 - 1<<31}},
	{api.I64, "i64", "", []uint64{0, 1, minus(1), 3, minus(7), 64, 255, 1 << 31, 1<<53 + 1, math.MaxInt64, 1 << 63}},
	{api.F64, "f64", "", []uint64{0, 1 << 63, bits(1), bits(-1.5), bits(0.1), bits(255.9), bits(256), bits(-0.9), bits(2147483648), bits(1 << 63), bits(-1 << 63), bits(math.Inf(1)), bits(math.Inf(-1)), 0x7ff8000000000000, 1, bits(math.MaxFloat64)}},
}

// odds are numbers without a pattern, the same ones each time.
type odds uint64

const firstOdd odds = 0x9e3779b97f4a7c15

func (o *odds) number() uint64 {
	w := uint64(*o)
	w ^= w << 13
	w ^= w >> 7
	w ^= w << 17
	*o = odds(w)
	return w * 0x2545f4914f6cdd1d
}

func (o *odds) below(n int) int { return int(o.number() >> 33 % uint64(n)) }

// often tells true about so many times in a hundred.
func (o *odds) often(percent int) bool { return o.below(100) < percent }

func pick[T any](o *odds, l ...T) T { return l[o.below(len(l))] }
