package check

import (
	"slices"

	"smithy/api"
	"smithy/scalar"
)

// expression goes through one, and notes and tells its type. A row of operators is as deep on its left as it is long: a loop goes down it and back up, so that no row uses up the stack.
func (c *checker) expression(i int) api.Type {
	var row []int
	for ofTwo(c.nodes[i].Kind) {
		row = append(row, i)
		i = c.nodes[i].Kids[0]
	}
	t := c.operand(i)
	c.info.Types[i] = t
	for _, i := range slices.Backward(row) {
		n := c.nodes[i]
		t = joined(n, t, c.expression(n.Kids[1]))
		c.info.Types[i] = t
	}
	return t
}

func ofTwo(kind api.NodeKind) bool {
	return kind == api.NodeBinary || kind == api.NodeBoth || kind == api.NodeEither
}

// joined is the type of what an operator of two makes.
func joined(n api.Node, first, second api.Type) api.Type {
	t, ok := api.Bool, first == api.Bool
	if n.Kind == api.NodeBinary {
		t, ok = scalar.Of(n.Op, first)
	}
	if !ok || first != second {
		stop(api.ErrType, n.At)
	}
	return t
}

// operand is the type of an expression that is no operator of two.
func (c *checker) operand(i int) api.Type {
	n := c.nodes[i]
	switch n.Kind {
	case api.NodeName:
		return c.variable(i).Type
	case api.NodeItem:
		array := c.array(i)
		c.index(n.Kids[0])
		return array.Type
	case api.NodeCall:
		return c.call(i)
	case api.NodeCast:
		if !scalar.Turns(n.Type, c.expression(n.Kids[0])) {
			stop(api.ErrType, n.At)
		}
	case api.NodeUnary:
		t, ok := scalar.Of(n.Op, c.expression(n.Kids[0]))
		if !ok {
			stop(api.ErrType, n.At)
		}
		return t
	}
	return n.Type
}

func (c *checker) call(i int) api.Type {
	n := c.nodes[i]
	place, ok := c.named[n.Name]
	if !ok {
		stop(api.ErrName, n.At)
	}
	for _, kid := range n.Kids {
		c.expression(kid)
	}
	f := c.funcs[place]
	if len(n.Kids) != len(f.Params) {
		stop(api.ErrType, n.At)
	}
	for k, kid := range n.Kids {
		c.typed(kid, f.Params[k].Type)
	}
	c.info.Means[i] = place
	return f.Result
}

func (c *checker) index(i int) {
	c.expect(i, api.I64)
}

// expect goes through an expression that must be of a type.
func (c *checker) expect(i int, wanted api.Type) {
	c.expression(i)
	c.typed(i, wanted)
}

// typed asks for the type of an expression that was gone through.
func (c *checker) typed(i int, wanted api.Type) {
	if c.info.Types[i] != wanted {
		stop(api.ErrType, c.nodes[i].At)
	}
}

// variable is the local that a node names, which must be no array.
func (c *checker) variable(i int) api.Local {
	l := c.local(i)
	if l.Size > 0 {
		stop(api.ErrType, c.nodes[i].At)
	}
	return l
}

// array is the local that a node names, which must be one.
func (c *checker) array(i int) api.Local {
	l := c.local(i)
	if l.Size == 0 {
		stop(api.ErrType, c.nodes[i].At)
	}
	return l
}

func (c *checker) local(i int) api.Local {
	n := c.nodes[i]
	number, ok := c.frame.seen[n.Name]
	if !ok {
		stop(api.ErrName, n.At)
	}
	c.info.Means[i] = number
	return c.frame.locals[number]
}
