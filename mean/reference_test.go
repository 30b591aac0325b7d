package mean_test

import (
	"smithy/api"
	"smithy/scalar"
)

// second runs a checked tree in another way: a call for each node, locals by their names, and types beside words.
type second struct {
	tree         api.Tree
	steps, depth int
	live         int
	trace        api.Trace
	scopes       []map[string]*thing
}

// thing is a local: a variable has one word.
type thing struct {
	of    api.Type
	words []uint64
}

// worth is a word and its type.
type worth struct {
	of   api.Type
	word uint64
}

// over is thrown as a run ends ahead of its first call's end.
type over struct{}

// left is how a block was left: a loop's, or a function's, last statement was none of these.
type left string

func reference(tree api.Tree, f int, args []uint64, steps, depth int) (trace api.Trace) {
	s := &second{tree: tree, steps: steps, depth: depth}
	defer func() {
		if r := recover(); r != nil {
			if _, ok := r.(over); !ok {
				panic(r)
			}
			trace = s.trace
		}
	}()
	s.trace.Value = s.call(f, args)
	s.trace.End = api.Told
	return s.trace
}

func (s *second) give(end api.End, trap api.Trap) {
	s.trace.End, s.trace.Trap = end, trap
	panic(over{})
}

func (s *second) step() {
	if s.trace.Steps == s.steps {
		s.give(api.Steps, api.NoTrap)
	}
	s.trace.Steps++
}

func (s *second) call(f int, args []uint64) uint64 {
	if s.live == s.depth {
		s.give(api.Deep, api.NoTrap)
	}
	s.step()
	s.live++
	if s.live > s.trace.Depth {
		s.trace.Depth = s.live
	}
	outer := s.scopes
	s.scopes = []map[string]*thing{{}}
	for i, p := range s.tree.Funcs[f].Params {
		s.declare(p.Name, &thing{p.Type, []uint64{args[i]}})
	}
	word, _ := s.block(s.tree.Funcs[f].Body)
	s.scopes = outer
	s.live--
	return word
}

func (s *second) declare(name string, l *thing) { s.scopes[len(s.scopes)-1][name] = l }

func (s *second) find(name string) *thing {
	for i := len(s.scopes) - 1; ; i-- {
		if l := s.scopes[i][name]; l != nil {
			return l
		}
	}
}

// block is the word of a return in it, and how it was left.
func (s *second) block(i int) (uint64, left) {
	s.scopes = append(s.scopes, map[string]*thing{})
	depth := len(s.scopes)
	for _, kid := range s.tree.Nodes[i].Kids {
		if word, how := s.stmt(s.tree.Nodes[kid]); how != "" {
			s.scopes = s.scopes[:depth-1]
			return word, how
		}
	}
	s.scopes = s.scopes[:depth-1]
	return 0, ""
}

func (s *second) stmt(n api.Node) (uint64, left) {
	switch n.Kind {
	case api.NodeVar:
		w := s.expr(n.Kids[0])
		s.declare(n.Name, &thing{n.Type, []uint64{w.word}})
	case api.NodeArray:
		s.declare(n.Name, &thing{n.Type, make([]uint64, n.Size)})
	case api.NodeSet:
		w := s.expr(n.Kids[0])
		s.find(n.Name).words[0] = w.word
	case api.NodePut:
		index := s.expr(n.Kids[0])
		w := s.expr(n.Kids[1])
		*s.element(n.Name, index) = w.word
	case api.NodeIf:
		if s.expr(n.Kids[0]).word == 1 {
			return s.block(n.Kids[1])
		} else if len(n.Kids) == 3 {
			return s.block(n.Kids[2])
		}
	case api.NodeWhile:
		return s.loop(n)
	case api.NodeBreak:
		return 0, "break"
	case api.NodeNext:
		return 0, "continue"
	case api.NodeReturn:
		return s.expr(n.Kids[0]).word, "return"
	case api.NodePrint:
		w := s.expr(n.Kids[0])
		s.trace.Shows = append(s.trace.Shows, api.Show{Type: w.of, Bits: w.word})
	case api.NodeDo:
		s.expr(n.Kids[0])
	}
	return 0, ""
}

func (s *second) loop(n api.Node) (uint64, left) {
	for {
		s.step()
		if s.expr(n.Kids[0]).word == 0 {
			return 0, ""
		}
		word, how := s.block(n.Kids[1])
		if how == "break" {
			return 0, ""
		}
		if how == "return" {
			return word, how
		}
	}
}

func (s *second) element(name string, index worth) *uint64 {
	words := s.find(name).words
	if at := int64(index.word); at < 0 || at >= int64(len(words)) {
		s.give(api.Trapped, api.TrapIndex)
	}
	return &words[index.word]
}

func (s *second) expr(i int) worth {
	n := s.tree.Nodes[i]
	switch n.Kind {
	case api.NodeLit:
		return worth{n.Type, n.Bits}
	case api.NodeName:
		l := s.find(n.Name)
		return worth{l.of, l.words[0]}
	case api.NodeItem:
		index := s.expr(n.Kids[0])
		return worth{s.find(n.Name).of, *s.element(n.Name, index)}
	case api.NodeCall:
		var args []uint64
		for _, kid := range n.Kids {
			args = append(args, s.expr(kid).word)
		}
		for f := range s.tree.Funcs {
			if s.tree.Funcs[f].Name == n.Name {
				return worth{s.tree.Funcs[f].Result, s.call(f, args)}
			}
		}
	case api.NodeBoth:
		if w := s.expr(n.Kids[0]); w.word == 0 {
			return w
		}
		return s.expr(n.Kids[1])
	case api.NodeEither:
		if w := s.expr(n.Kids[0]); w.word == 1 {
			return w
		}
		return s.expr(n.Kids[1])
	}
	return s.reckoned(n)
}

func (s *second) reckoned(n api.Node) worth {
	a := s.expr(n.Kids[0])
	switch n.Kind {
	case api.NodeCast:
		if !scalar.Fits(n.Type, a.of, a.word) {
			s.give(api.Trapped, api.TrapRange)
		}
		w, _ := scalar.Turn(n.Type, a.of, a.word)
		return worth{n.Type, w}
	case api.NodeUnary:
		w, _ := scalar.One(n.Op, a.of, a.word)
		return worth{a.of, w}
	}
	b := s.expr(n.Kids[1])
	if scalar.Stops(n.Op, a.of, b.word) {
		s.give(api.Trapped, api.TrapZero)
	}
	of, _ := scalar.Of(n.Op, a.of)
	w, _ := scalar.Two(n.Op, a.of, a.word, b.word)
	return worth{of, w}
}
