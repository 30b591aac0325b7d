package strips_test

import (
	"slices"
	"testing"

	"smithy/api"
	"smithy/graph"
	"smithy/live"
	"smithy/strips"
)

const vars = 200

func end(kind api.TermKind, arg, to, other int) api.Term {
	return api.Term{Kind: kind, Arg: arg, To: [2]int{to, other}}
}

// loop is a loop of truths, whose head has a phi of some; its body turns every third one, shows every second one, and behind it all are shown that are no fifth one.
func loop() api.Graph {
	g := api.Graph{Params: []int{0}, Result: api.Bool, Vars: slices.Repeat([]api.Type{api.Bool}, vars), Blocks: []api.Block{
		{Term: end(api.TermJump, 0, 1, 0)},
		{Term: end(api.TermBranch, 0, 2, 3)},
		{Term: end(api.TermJump, 0, 1, 0)},
		{Term: end(api.TermReturn, 7, 0, 0)},
	}}
	lay := func(block int, x api.Ins) { g.Blocks[block].Ins = append(g.Blocks[block].Ins, x) }
	for v := range vars {
		if v%7 == 1 {
			lay(1, api.Ins{Kind: api.InsPhi, Dst: v, Args: []int{vars - v, v / 2}})
		}
		if v%3 == 0 {
			lay(2, api.Ins{Kind: api.InsOp, Op: api.OpNot, Dst: v, Args: []int{v}})
		}
		if v%2 == 0 {
			lay(2, api.Ins{Kind: api.InsPrint, Args: []int{v}})
		}
		if v%5 > 0 {
			lay(3, api.Ins{Kind: api.InsPrint, Args: []int{v}})
		}
	}
	return g
}

// some is every so-many-th variable.
func some(step int) []int {
	var l []int
	for v := step - 1; v < vars; v += step {
		l = append(l, v)
	}
	return l
}

// only is a row's variables that are in another one, too.
func only(row, in []int) []int {
	return slices.DeleteFunc(slices.Clone(row), func(v int) bool { return !slices.Contains(in, v) })
}

// What is live of some variables is what is live of all, but for the others.
func TestStripsOfSomeVariables(t *testing.T) {
	g := loop()
	ahead := graph.Ahead(g)
	into, out, err := live.Live(g)
	if err != api.OK || len(into[1]) < strips.Width {
		t.Fatalf("%d: %v", err, into)
	}
	for step := 1; step < 30; step++ {
		asked := some(step)
		gotInto, gotOut := make([][]int, len(ahead)), make([][]int, len(ahead))
		f := strips.New(ahead)
		all := strips.Of(g, ahead, asked)
		if want := (len(asked) + strips.Width - 1) / strips.Width; len(all) != want {
			t.Errorf("%d variables are %d strips", len(asked), len(all))
		}
		for _, s := range all {
			f.Fill(s)
			for _, block := range f.Met {
				gotInto[block] = s.Told(gotInto[block], f.Into[block])
				gotOut[block] = s.Told(gotOut[block], f.Out[block])
			}
			f.Empty(s)
		}
		for i := range ahead {
			if !slices.Equal(gotInto[i], only(into[i], asked)) || !slices.Equal(gotOut[i], only(out[i], asked)) {
				t.Errorf("every %dth one: %v and %v are live at the block %d", step, gotInto[i], gotOut[i], i)
			}
		}
	}
	if all := strips.Of(g, ahead, nil); len(all) != 0 {
		t.Errorf("no variables are %d strips", len(all))
	}
}

// A flow that is empty again is as a new one.
func TestEmpty(t *testing.T) {
	g := loop()
	ahead := graph.Ahead(g)
	f := strips.New(ahead)
	for range 2 {
		for _, s := range strips.Of(g, ahead, some(1)) {
			f.Fill(s)
			if len(f.Met) == 0 {
				t.Errorf("nothing is live of %v", s.Vars)
			}
			f.Empty(s)
			if len(f.Met) > 0 || slices.Max(f.Into) > 0 || slices.Max(f.Out) > 0 {
				t.Errorf("%v is live still", s.Vars)
			}
		}
	}
}

func TestSets(t *testing.T) {
	g := loop()
	for _, s := range strips.Of(g, graph.Ahead(g), some(2)) {
		got := map[int][]int{}
		for _, m := range s.Sets {
			got[m.Block] = s.Told(got[m.Block], m.Vars)
		}
		for block, rest := range map[int][2]int{1: {7, 1}, 2: {3, 0}} {
			want := slices.DeleteFunc(slices.Clone(s.Vars), func(v int) bool { return v%rest[0] != rest[1] })
			if !slices.Equal(got[block], want) {
				t.Errorf("the block %d sets %v; want %v", block, got[block], want)
			}
		}
		if len(got) != 2 {
			t.Errorf("%d blocks set something", len(got))
		}
	}
}

func TestTold(t *testing.T) {
	s := strips.Strip{Vars: []int{3, 8, 90}}
	for word, want := range map[uint64][]int{0: {1}, 1: {1, 3}, 5: {1, 3, 90}, 6: {1, 8, 90}} {
		if got := s.Told([]int{1}, word); !slices.Equal(got, want) {
			t.Errorf("%b tells %v; want %v", word, got, want)
		}
	}
}
