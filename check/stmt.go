package check

import "smithy/api"

func (c *checker) block(i int) {
	from := len(c.frame.locals)
	for _, kid := range c.nodes[i].Kids {
		c.statement(kid)
	}
	c.frame.leave(from)
}

func (c *checker) statement(i int) {
	n := c.nodes[i]
	switch n.Kind {
	case api.NodeVar:
		c.result(n, n.Kids[0], n.Type)
		c.declaration(i)
	case api.NodeArray:
		c.declaration(i)
	case api.NodeSet:
		c.result(n, n.Kids[0], c.variable(i).Type)
	case api.NodePut:
		array := c.array(i)
		c.index(n.Kids[0])
		c.result(n, n.Kids[1], array.Type)
	case api.NodeIf:
		c.branches(n)
	case api.NodeWhile:
		c.frame.loops++
		c.branches(n)
		c.frame.loops--
	case api.NodeBreak, api.NodeNext:
		if c.frame.loops == 0 {
			stop(api.ErrBreak, n.At)
		}
	case api.NodeReturn:
		c.result(n, n.Kids[0], c.frame.result)
	case api.NodePrint, api.NodeDo:
		c.expression(n.Kids[0])
	}
}

func (c *checker) declaration(i int) {
	n := c.nodes[i]
	c.info.Means[i] = c.frame.declare(api.Local{Name: n.Name, Type: n.Type, Size: n.Size}, n.At)
}

// branches goes through a condition and the blocks that hang on it.
func (c *checker) branches(n api.Node) {
	c.expect(n.Kids[0], api.Bool)
	for _, kid := range n.Kids[1:] {
		c.block(kid)
	}
}

// result goes through the expression of a statement, at which it is told if its type is another one than wanted.
func (c *checker) result(n api.Node, kid int, wanted api.Type) {
	if c.expression(kid) != wanted {
		stop(api.ErrType, n.At)
	}
}
