package syntax

import (
	"strings"

	"smithy/api"
)

// giveUp is thrown where a parser can't go on.
type giveUp struct {
	fault api.Fault
}

// parser takes tokens off the front, up to the end's, which is never taken: so there is always a next one.
type parser struct {
	src    string
	tokens []api.Token
	open   int
	tree   api.Tree
}

func (p *parser) next() api.Token {
	return p.tokens[0]
}

// text is the next token's; by it alone words and signs are known, as no name and no literal is written as one of them.
func (p *parser) text() string {
	return p.src[p.next().At:p.next().End]
}

func (p *parser) has(text string) bool {
	return p.text() == text
}

// stop gives up at the next token.
func (p *parser) stop(err api.Errno) {
	panic(giveUp{api.Fault{Err: err, At: p.next().At}})
}

// pass goes behind the next token, and tells its place.
func (p *parser) pass() int {
	at := p.next().At
	p.tokens = p.tokens[1:]
	return at
}

// take goes behind a word or sign that must stand here, and tells its place.
func (p *parser) take(text string) int {
	if !p.has(text) {
		p.stop(api.ErrSyntax)
	}
	return p.pass()
}

// name is a name that must stand here, and its place. It is a copy, so that a tree does not keep its source.
func (p *parser) name() (string, int) {
	if p.next().Kind != api.TokName {
		p.stop(api.ErrSyntax)
	}
	name := strings.Clone(p.text())
	return name, p.pass()
}

func (p *parser) typeName() api.Type {
	t := typeOf(p.text())
	if t == api.NoType {
		p.stop(api.ErrSyntax)
	}
	p.pass()
	return t
}

func typeOf(word string) api.Type {
	switch word {
	case "bool":
		return api.Bool
	case "u8":
		return api.U8
	case "i32":
		return api.I32
	case "i64":
		return api.I64
	case "f64":
		return api.F64
	}
	return api.NoType
}

// opened goes behind a word or sign that must stand here, then through what it opens, and tells its place.
func (p *parser) opened(text string, through func()) int {
	if p.has(text) && p.open == api.MaxNest {
		p.stop(api.ErrNest)
	}
	at := p.take(text)
	p.open++
	through()
	p.open--
	return at
}

// list goes on behind a (, through items with a comma between each two.
func (p *parser) list(item func()) {
	if !p.has(")") {
		item()
		for p.has(",") {
			p.pass()
			item()
		}
	}
	p.take(")")
}

// put adds a node behind all that have ended, and tells its place.
func (p *parser) put(n api.Node) int {
	p.tree.Nodes = append(p.tree.Nodes, n)
	return len(p.tree.Nodes) - 1
}

func (p *parser) function() {
	p.take("func")
	var f api.Func
	f.Name, f.At = p.name()
	p.take("(")
	p.list(func() {
		var param api.Param
		param.Name, param.At = p.name()
		param.Type = p.typeName()
		f.Params = append(f.Params, param)
	})
	f.Result = p.typeName()
	f.Body = p.block()
	p.tree.Funcs = append(p.tree.Funcs, f)
}
