package check

import (
	"strings"

	"smithy/api"
)

// giveUp is thrown where a fault is found.
type giveUp struct {
	fault api.Fault
}

func stop(err api.Errno, at int) {
	panic(giveUp{api.Fault{Err: err, At: at}})
}

// checker goes through a right tree, and notes what its nodes are and stand for.
type checker struct {
	nodes []api.Node
	funcs []api.Func
	named map[string]int // functions' places, by names
	info  api.Info
	frame frame
}

// frame is what is known of the function that is gone through.
type frame struct {
	result api.Type
	locals []api.Local
	words  int
	seen   map[string]int // the numbers of those locals that are seen here, by names
	loops  int            // how many of them stand about what is gone through
}

func newChecker(t api.Tree) *checker {
	c := &checker{nodes: t.Nodes, funcs: t.Funcs, named: map[string]int{}}
	c.info.Types = make([]api.Type, len(t.Nodes))
	c.info.Means = make([]int, len(t.Nodes))
	for i := range c.info.Means {
		c.info.Means[i] = -1
	}
	return c
}

// nameFunctions goes ahead of all else, as a call may name a function behind its own.
func (c *checker) nameFunctions() {
	if len(c.funcs) > api.MaxFuncs {
		stop(api.ErrFrame, c.funcs[api.MaxFuncs].At)
	}
	for i, f := range c.funcs {
		if _, there := c.named[f.Name]; there {
			stop(api.ErrName, f.At)
		}
		c.named[f.Name] = i
	}
}

func (c *checker) function(f api.Func) {
	if len(f.Params) > api.MaxParams {
		stop(api.ErrFrame, f.Params[api.MaxParams].At)
	}
	c.frame = frame{result: f.Result, seen: map[string]int{}}
	for _, p := range f.Params {
		c.frame.declare(api.Local{Name: p.Name, Type: p.Type}, p.At)
	}
	c.block(f.Body)
	c.info.Locals = append(c.info.Locals, c.frame.locals)
}

// declare adds a local, and tells its number.
func (f *frame) declare(l api.Local, at int) int {
	if _, there := f.seen[l.Name]; there {
		stop(api.ErrName, at)
	}
	number := len(f.locals)
	f.words += max(l.Size, 1)
	if number == api.MaxLocals || f.words > api.MaxFrame {
		stop(api.ErrFrame, at)
	}
	f.seen[l.Name] = number
	// A copy, so that what is told does not keep the tree's texts.
	l.Name = strings.Clone(l.Name)
	f.locals = append(f.locals, l)
	return number
}

// leave ends what is seen of the locals from a number on.
func (f *frame) leave(from int) {
	for _, l := range f.locals[from:] {
		delete(f.seen, l.Name)
	}
}
