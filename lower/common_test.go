package lower_test

import (
	"math"
	"slices"
	"strconv"
	"strings"
	"testing"

	"smithy/api"
	"smithy/graph"
	"smithy/lower"
	"smithy/mean"
	"smithy/run"
	"smithy/syntax"
)

// many is more steps, and a greater depth, than any run needs that asks for neither.
const many = 1 << 20

// taken is the tree of a source that must be one.
func taken(t *testing.T, src string) api.Tree {
	t.Helper()
	tree, f := syntax.Parse(src)
	if f != (api.Fault{}) {
		t.Fatalf("Parse(%s): %v; want a tree", short(src), f)
	}
	return tree
}

// lowered is the program of a tree that must have one, of which all holds that P9.1 says.
func lowered(t *testing.T, tree api.Tree, what string) []api.Graph {
	t.Helper()
	p, err := lower.Lower(tree)
	if err != api.OK {
		t.Fatalf("%s: Lower is refused with %d", what, err)
	}
	if err, at := graph.Check(p); err != api.OK {
		t.Fatalf("%s: graph.Check refuses the graph %d with %d", what, at, err)
	}
	if len(p) != len(tree.Funcs) {
		t.Fatalf("%s: %d graphs; want %d", what, len(p), len(tree.Funcs))
	}
	for i, f := range tree.Funcs {
		if p[i].Name != f.Name || p[i].Result != f.Result || !slices.Equal(typesOf(p[i]), wanted(f)) {
			t.Fatalf("%s: the graph %d is %s of %v, which tells %v; want %s of %v, which tells %v", what, i, p[i].Name, typesOf(p[i]), p[i].Result, f.Name, wanted(f), f.Result)
		}
		for _, b := range p[i].Blocks {
			if slices.ContainsFunc(b.Ins, func(x api.Ins) bool { return x.Kind == api.InsPhi }) {
				t.Fatalf("%s: the graph %d has a phi", what, i)
			}
		}
	}
	return p
}

// typesOf is those of a graph's parameters.
func typesOf(g api.Graph) []api.Type {
	var l []api.Type
	for _, v := range g.Params {
		l = append(l, g.Vars[v])
	}
	return l
}

func wanted(f api.Func) []api.Type {
	var l []api.Type
	for _, p := range f.Params {
		l = append(l, p.Type)
	}
	return l
}

// most is the greatest number of blocks of a graph.
func most(p []api.Graph) int {
	n := 0
	for _, g := range p {
		n = max(n, len(g.Blocks))
	}
	return n
}

// meant is what a source means.
func meant(t *testing.T, tree api.Tree, f int, args []uint64, steps, depth int, what string) api.Trace {
	t.Helper()
	trace, err := mean.Run(tree, f, args, steps, depth)
	if err != api.OK {
		t.Fatalf("%s: mean.Run is refused with %d", what, err)
	}
	return trace
}

// ran is what its graphs do.
func ran(t *testing.T, p []api.Graph, f int, args []uint64, steps, depth int, what string) api.Trace {
	t.Helper()
	trace, err := run.Run(p, f, args, steps, depth)
	if err != api.OK {
		t.Fatalf("%s: run.Run is refused with %d", what, err)
	}
	return trace
}

func ends(t api.Trace) bool { return t.End == api.Told || t.End == api.Trapped }

func showTheSame(a, b api.Trace) bool {
	return slices.Equal(a.Shows, b.Shows) && a.End == b.End && a.Value == b.Value && a.Trap == b.Trap
}

// begins tells whether one of two rows of shows is the beginning of the other one.
func begins(a, b []api.Show) bool {
	n := min(len(a), len(b))
	return slices.Equal(a[:n], b[:n])
}

// program is a source with its tree and its graphs, and a function's place with words for it.
type program struct {
	src    string
	tree   api.Tree
	graphs []api.Graph
	f      int
	args   []uint64
}

func programOf(t *testing.T, src string, args ...uint64) program {
	t.Helper()
	tree := taken(t, src)
	return program{src, tree, lowered(t, tree, short(src)), 0, args}
}

// wantKept asks for all that P9.2 and P9.3 say of these steps and this depth, and tells what is meant and what the graphs do.
func (p program) wantKept(t *testing.T, steps, depth int) (meaning, done api.Trace) {
	t.Helper()
	what := short(p.src)
	meaning = meant(t, p.tree, p.f, p.args, steps, depth, what)
	blocks, least := most(p.graphs), 0
	switch {
	case ends(meaning):
		least = meaning.Steps * blocks
	case meaning.End == api.Deep:
		least = (meaning.Steps + 1) * blocks
	}
	for i, n := range []int{least, least + 1, least + 1000} {
		trace := ran(t, p.graphs, p.f, p.args, n, depth, what)
		if ends(meaning) && (!showTheSame(trace, meaning) || trace.Depth != meaning.Depth) || meaning.End == api.Deep && !showTheSame(trace, meaning) {
			t.Fatalf("%s\nfunction %d of %x, depth %d, with %d steps is %v, with %d of its graphs of at most %d blocks %v", what, p.f, p.args, depth, steps, meaning, n, blocks, trace)
		}
		if !begins(trace.Shows, meaning.Shows) {
			t.Fatalf("%s\nfunction %d of %x, depth %d, with %d steps shows %v, with %d of its graphs %v", what, p.f, p.args, depth, steps, meaning.Shows, n, trace.Shows)
		}
		if i == 0 {
			done = trace
		}
	}
	return meaning, done
}

// wantCut asks that what a run shows which is cut at any number of steps, of the source or of its graphs, is the beginning.
func (p program) wantCut(t *testing.T, upTo, depth int) {
	t.Helper()
	whole, all := p.wantKept(t, upTo, depth)
	for n := range min(upTo, all.Steps+2) {
		if trace := ran(t, p.graphs, p.f, p.args, n, depth, p.src); !begins(trace.Shows, whole.Shows) || ends(all) && len(trace.Shows) > len(whole.Shows) {
			t.Fatalf("%s\nfunction %d of %x, depth %d: with %d steps of its graphs %v, but %v is meant", short(p.src), p.f, p.args, depth, n, trace, whole)
		}
	}
	for n := range min(upTo, whole.Steps+2) {
		p.wantKept(t, n, depth)
	}
}

// wantRun asks that the first function of a source means just this, and its graphs do so, too; also with steps and depth that are just enough, or too few.
func wantRun(t *testing.T, src string, args []uint64, want api.Trace) {
	t.Helper()
	p := programOf(t, src, args...)
	meaning, done := p.wantKept(t, many, many)
	if !showTheSame(done, want) || done.Depth != want.Depth {
		t.Errorf("%s of %x: %v; want %v", short(src), args, done, want)
	}
	for _, steps := range []int{0, 1, meaning.Steps - 1, meaning.Steps} {
		for _, depth := range []int{0, 1, meaning.Depth - 1, meaning.Depth} {
			p.wantKept(t, max(steps, 0), max(depth, 0))
		}
	}
}

func told(value uint64, depth int, shows ...api.Show) api.Trace {
	return api.Trace{Shows: shows, End: api.Told, Value: value, Depth: depth}
}

func trapped(trap api.Trap, depth int, shows ...api.Show) api.Trace {
	return api.Trace{Shows: shows, End: api.Trapped, Trap: trap, Depth: depth}
}

// whole is some numbers as they are shown.
func whole(l ...int) []api.Show {
	var shows []api.Show
	for _, n := range l {
		shows = append(shows, api.Show{Type: api.I64, Bits: uint64(n)})
	}
	return shows
}

// within is some statements in the body of a function, among arrays of each type and a function of each type that shows and tells its argument.
func within(stmts string) string {
	return "func f() i64 { var bs[2] bool; var us[2] u8; var ks[2] i32; var ns[3] i64; var xs[2] f64; " + stmts + " } " +
		"func b(a bool) bool { print a; return a; } func u(a u8) u8 { print a; return a; } func k(a i32) i32 { print a; return a; } " +
		"func n(a i64) i64 { print a; return a; } func x(a f64) f64 { print a; return a; } func pair(a i64, b i64) i64 { print a * 10 + b; return a; }"
}

// wantEnd asks that the graphs of statements come to an end, and show these things ahead of it; also where they are cut anywhere.
func wantEnd(t *testing.T, stmts string, end api.End, trap api.Trap, shows []api.Show) {
	t.Helper()
	p := programOf(t, within(stmts))
	_, done := p.wantKept(t, many, many)
	if done.End != end || done.Value != 0 || done.Trap != trap || !slices.Equal(done.Shows, shows) {
		t.Errorf("%s: %v; want the end %d, trap %d, and to be shown %v", stmts, done, end, trap, shows)
	}
	p.wantCut(t, 200, 3)
}

// wantShows asks that the graphs of statements come to the end of their function and show just these numbers.
func wantShows(t *testing.T, stmts string, l ...int) {
	t.Helper()
	wantEnd(t, stmts, api.Told, api.NoTrap, whole(l...))
}

// wantShow asks that one thing is shown.
func wantShow(t *testing.T, stmts string, of api.Type, word uint64) {
	t.Helper()
	wantEnd(t, stmts, api.Told, api.NoTrap, []api.Show{{Type: of, Bits: word}})
}

// wantTrap asks that the graphs of statements end with a trap, and show these numbers ahead of it.
func wantTrap(t *testing.T, trap api.Trap, stmts string, l ...int) {
	t.Helper()
	wantEnd(t, stmts, api.Trapped, trap, whole(l...))
}

func bits(x float64) uint64 { return math.Float64bits(x) }

func minus(n int) uint64 { return uint64(-n) }

func times(text string, n int) string { return strings.Repeat(text, n) }

// short is a text as a remark of a test shows it.
func short(text string) string {
	if len(text) > 1200 {
		text = text[:800] + " .. " + text[len(text)-300:]
	}
	return strconv.Quote(text)
}

// copied is a tree of its own.
func copied(t api.Tree) api.Tree {
	t.Nodes, t.Funcs = slices.Clone(t.Nodes), slices.Clone(t.Funcs)
	for i := range t.Nodes {
		t.Nodes[i].Kids = slices.Clone(t.Nodes[i].Kids)
	}
	for i := range t.Funcs {
		t.Funcs[i].Params = slices.Clone(t.Funcs[i].Params)
	}
	return t
}

// typed is a type with its word, what stands behind a literal of it, and words of it: the ends of the type, and some in between.
type typed struct {
	api.Type
	word, behind string
	words        []uint64
}

var types = []typed{
	{api.Bool, "bool", "", []uint64{0, 1}},
	{api.U8, "u8", "u8", []uint64{0, 1, 2, 7, 8, 100, 127, 128, 200, 255}},
	{api.I32, "i32", "i32", []uint64{0, 1, minus(1), 2, minus(7), 31, 33, 1000, 65536, math.MaxInt32, 1<<64 - 1<<31}},
	{api.I64, "i64", "", []uint64{0, 1, minus(1), 3, minus(7), 64, 255, 1 << 31, 1<<53 + 1, math.MaxInt64, 1 << 63}},
	{api.F64, "f64", "", []uint64{0, 1 << 63, bits(1), bits(-1.5), bits(0.1), bits(255.9), bits(256), bits(-0.9), bits(2147483648), bits(1 << 63), bits(-1 << 63), bits(math.Inf(1)), bits(math.Inf(-1)), 0x7ff8000000000000, 1, bits(math.MaxFloat64)}},
}

func wordOf(t api.Type) string {
	for _, u := range types {
		if u.Type == t {
			return u.word
		}
	}
	return ""
}

// odds are numbers without a pattern, the same ones each time.
type odds uint64

const firstOdd odds = 0x9e3779b97f4a7c15

func (o *odds) number() uint64 {
	w := uint64(*o)
	w ^= w << 13
	w ^= w >> 7
	w ^= w << 17
	*o = odds(w)
	return w * 0x2545f4914f6cdd1d
}

func (o *odds) below(n int) int { return int(o.number() >> 33 % uint64(n)) }

// often tells true about so many times in a hundred.
func (o *odds) often(percent int) bool { return o.below(100) < percent }

func pick[T any](o *odds, l ...T) T { return l[o.below(len(l))] }
