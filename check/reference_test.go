package check_test

import (
	"smithy/api"
	"smithy/scalar"
	"smithy/syntax"
)

// walk goes through the whole of a tree in the chapter's order, faults or not, and keeps the first one.
type walk struct {
	t      api.Tree
	first  api.Fault
	locals []api.Local
	seen   []api.Local
	loop   bool
	result api.Type
}

// reference is the fault that the chapter asks for.
func reference(t api.Tree) api.Fault {
	if !syntax.Right(t) {
		return api.Fault{Err: api.ErrShape}
	}
	w := walk{t: t}
	for i, f := range t.Funcs {
		w.unless(i != api.MaxFuncs, api.ErrFrame, f.At)
	}
	for i, f := range t.Funcs {
		for _, g := range t.Funcs[:i] {
			w.unless(f.Name != g.Name, api.ErrName, f.At)
		}
	}
	for _, f := range t.Funcs {
		for i, p := range f.Params {
			w.unless(i != api.MaxParams, api.ErrFrame, p.At)
		}
		w.locals, w.seen, w.loop, w.result = nil, nil, false, f.Result
		for _, p := range f.Params {
			w.declare(api.Local{Name: p.Name, Type: p.Type}, p.At)
		}
		w.block(f.Body, false)
	}
	return w.first
}

func (w *walk) unless(ok bool, err api.Errno, at int) {
	if !ok && w.first.Err == api.OK {
		w.first = api.Fault{Err: err, At: at}
	}
}

func (w *walk) find(name string) (api.Local, bool) {
	for _, l := range w.seen {
		if l.Name == name {
			return l, true
		}
	}
	return api.Local{}, false
}

func (w *walk) declare(l api.Local, at int) {
	_, there := w.find(l.Name)
	w.unless(!there, api.ErrName, at)
	w.locals = append(w.locals, l)
	w.seen = append(w.seen, l)
	words := 0
	for _, l := range w.locals {
		words += max(1, l.Size)
	}
	w.unless(len(w.locals) <= 64 && words <= 1024, api.ErrFrame, at)
}

func (w *walk) block(i int, loop bool) {
	seen, was := len(w.seen), w.loop
	w.loop = w.loop || loop
	for _, kid := range w.t.Nodes[i].Kids {
		w.stmt(kid)
	}
	w.seen, w.loop = w.seen[:seen], was
}

// known is the local that a node names.
func (w *walk) known(n api.Node, array bool) api.Type {
	l, there := w.find(n.Name)
	w.unless(there, api.ErrName, n.At)
	w.unless(l.Size > 0 == array, api.ErrType, n.At)
	return l.Type
}

func (w *walk) stmt(i int) {
	n := w.t.Nodes[i]
	kid := func(k int) int { return n.Kids[k] }
	at := func(k int) int { return w.t.Nodes[n.Kids[k]].At }
	switch n.Kind {
	case api.NodeVar:
		w.unless(w.expr(kid(0)) == n.Type, api.ErrType, n.At)
		w.declare(api.Local{Name: n.Name, Type: n.Type}, n.At)
	case api.NodeArray:
		w.declare(api.Local{Name: n.Name, Type: n.Type, Size: n.Size}, n.At)
	case api.NodeSet:
		u := w.known(n, false)
		w.unless(w.expr(kid(0)) == u, api.ErrType, n.At)
	case api.NodePut:
		u := w.known(n, true)
		w.unless(w.expr(kid(0)) == api.I64, api.ErrType, at(0))
		w.unless(w.expr(kid(1)) == u, api.ErrType, n.At)
	case api.NodeIf, api.NodeWhile:
		w.unless(w.expr(kid(0)) == api.Bool, api.ErrType, at(0))
		w.block(kid(1), n.Kind == api.NodeWhile)
		if len(n.Kids) == 3 {
			w.block(kid(2), false)
		}
	case api.NodeBreak, api.NodeNext:
		w.unless(w.loop, api.ErrBreak, n.At)
	case api.NodeReturn:
		w.unless(w.expr(kid(0)) == w.result, api.ErrType, n.At)
	case api.NodePrint, api.NodeDo:
		w.expr(kid(0))
	}
}

// expr is the type of an expression; of one with a fault whatever it may be, as only the first one counts.
func (w *walk) expr(i int) api.Type {
	n := w.t.Nodes[i]
	switch n.Kind {
	case api.NodeName:
		return w.known(n, false)
	case api.NodeItem:
		u := w.known(n, true)
		w.unless(w.expr(n.Kids[0]) == api.I64, api.ErrType, w.t.Nodes[n.Kids[0]].At)
		return u
	case api.NodeCall:
		return w.call(n)
	case api.NodeCast:
		w.unless(scalar.Turns(n.Type, w.expr(n.Kids[0])), api.ErrType, n.At)
	case api.NodeUnary:
		u, ok := scalar.Of(n.Op, w.expr(n.Kids[0]))
		w.unless(ok, api.ErrType, n.At)
		return u
	case api.NodeBinary:
		a, b := w.expr(n.Kids[0]), w.expr(n.Kids[1])
		u, ok := scalar.Of(n.Op, a)
		w.unless(a == b && ok, api.ErrType, n.At)
		return u
	case api.NodeBoth, api.NodeEither:
		a, b := w.expr(n.Kids[0]), w.expr(n.Kids[1])
		w.unless(a == api.Bool && b == api.Bool, api.ErrType, n.At)
		return api.Bool
	}
	return n.Type
}

func (w *walk) call(n api.Node) api.Type {
	var f api.Func
	there := false
	for _, g := range w.t.Funcs {
		if g.Name == n.Name && !there {
			f, there = g, true
		}
	}
	w.unless(there, api.ErrName, n.At)
	var given []api.Type
	for _, kid := range n.Kids {
		given = append(given, w.expr(kid))
	}
	w.unless(len(n.Kids) == len(f.Params), api.ErrType, n.At)
	for k := range min(len(given), len(f.Params)) {
		w.unless(given[k] == f.Params[k].Type, api.ErrType, w.t.Nodes[n.Kids[k]].At)
	}
	return f.Result
}
