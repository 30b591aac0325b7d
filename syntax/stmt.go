package syntax

import "smithy/api"

func (p *parser) block() int {
	var kids []int
	at := p.opened("{", func() {
		for !p.has("}") {
			kids = append(kids, p.stmt())
		}
		p.take("}")
	})
	return p.put(api.Node{Kind: api.NodeBlock, At: at, Kids: kids})
}

func (p *parser) stmt() int {
	switch p.text() {
	case "var":
		return p.varStmt()
	case "if":
		return p.ifStmt(p.pass())
	case "while":
		return p.whileStmt()
	case "break":
		return p.wordStmt(api.NodeBreak)
	case "continue":
		return p.wordStmt(api.NodeNext)
	case "return":
		return p.exprStmt(api.NodeReturn)
	case "print":
		return p.exprStmt(api.NodePrint)
	}
	return p.nameStmt()
}

// wordStmt is a statement of one word.
func (p *parser) wordStmt(kind api.NodeKind) int {
	at := p.pass()
	p.take(";")
	return p.put(api.Node{Kind: kind, At: at})
}

// exprStmt is a statement of a word and an expression.
func (p *parser) exprStmt(kind api.NodeKind) int {
	at := p.pass()
	value := p.expr()
	p.take(";")
	return p.put(api.Node{Kind: kind, At: at, Kids: []int{value}})
}

func (p *parser) varStmt() int {
	n := api.Node{Kind: api.NodeVar, At: p.pass()}
	n.Name, _ = p.name()
	if p.has("[") {
		return p.arrayStmt(n)
	}
	n.Type = p.typeName()
	p.take("=")
	n.Kids = []int{p.expr()}
	p.take(";")
	return p.put(n)
}

// arrayStmt goes on behind the name of a var that is an array's.
func (p *parser) arrayStmt(n api.Node) int {
	n.Kind = api.NodeArray
	p.take("[")
	n.Size = p.size()
	p.take("]")
	n.Type = p.typeName()
	p.take(";")
	return p.put(n)
}

// ifStmt goes on behind the word.
func (p *parser) ifStmt(at int) int {
	n := api.Node{Kind: api.NodeIf, At: at}
	n.Kids = append(n.Kids, p.expr())
	n.Kids = append(n.Kids, p.block())
	if p.has("else") {
		p.pass()
		n.Kids = append(n.Kids, p.elsePart())
	}
	return p.put(n)
}

func (p *parser) elsePart() int {
	if !p.has("if") {
		return p.block()
	}
	block := api.Node{Kind: api.NodeBlock, At: p.next().At}
	p.opened("if", func() {
		block.Kids = []int{p.ifStmt(block.At)}
	})
	return p.put(block)
}

func (p *parser) whileStmt() int {
	n := api.Node{Kind: api.NodeWhile, At: p.pass()}
	n.Kids = append(n.Kids, p.expr())
	n.Kids = append(n.Kids, p.block())
	return p.put(n)
}

// nameStmt is a statement that begins with a name: a call, or something that is set.
func (p *parser) nameStmt() int {
	n := api.Node{Kind: api.NodeSet}
	n.Name, n.At = p.name()
	if p.has("(") {
		call := p.call(n.At, n.Name)
		p.take(";")
		return p.put(api.Node{Kind: api.NodeDo, At: n.At, Kids: []int{call}})
	}
	if p.has("[") {
		// This pair stands in no expression, so it opens nothing.
		n.Kind = api.NodePut
		p.pass()
		n.Kids = append(n.Kids, p.expr())
		p.take("]")
	}
	p.take("=")
	n.Kids = append(n.Kids, p.expr())
	p.take(";")
	return p.put(n)
}
