package syntax_test

import (
	"slices"
	"strconv"
	"strings"

	"smithy/api"
)

// maker makes sources without a pattern by the grammar, and with them what the chapter says of them: the tree, whose places are those of tokens in their row, and the first token that opens too much (-1: none).
type maker struct {
	odds
	tokens  []string
	tree    api.Tree
	open    int
	tooDeep int
	extra   int // how often, in a hundred, an operand has parentheses that it does not need
}

func newMaker(o odds) *maker { return &maker{odds: o, tooDeep: -1, extra: pick(&o, 0, 0, 5)} }

func (m *maker) token(s string) int {
	m.tokens = append(m.tokens, s)
	return len(m.tokens) - 1
}

func (m *maker) put(n api.Node) int {
	m.tree.Nodes = append(m.tree.Nodes, n)
	return len(m.tree.Nodes) - 1
}

// opens adds a token that opens something, and tells its place.
func (m *maker) opens(s string) int {
	m.open++
	if m.open > api.MaxNest && m.tooDeep < 0 {
		m.tooDeep = len(m.tokens)
	}
	return m.token(s)
}

func (m *maker) closes(s string) {
	m.open--
	m.token(s)
}

func (m *maker) name() string {
	return pick(&m.odds, "a", "b", "c9", "_", "func_", "elseif", "F", "i65", strings.Repeat("n", api.MaxName))
}

func (m *maker) typeName() (string, api.Type) {
	s := pick(&m.odds, "bool", "u8", "i32", "i64", "f64")
	return s, types[s]
}

func (m *maker) source(fuel int) {
	for range m.below(3) + 1 {
		m.token("func")
		name := m.name()
		f := api.Func{Name: name, At: m.token(name)}
		m.token("(")
		for i := range m.below(4) {
			if i > 0 {
				m.token(",")
			}
			name := m.name()
			p := api.Param{Name: name, At: m.token(name)}
			var word string
			word, p.Type = m.typeName()
			m.token(word)
			f.Params = append(f.Params, p)
		}
		m.token(")")
		var word string
		word, f.Result = m.typeName()
		m.token(word)
		f.Body = m.block(fuel)
		m.tree.Funcs = append(m.tree.Funcs, f)
	}
}

// little is the fuel of what stands beside that which goes deep.
func (m *maker) little(fuel int) int { return min(fuel, pick(&m.odds, 0, 0, 0, 1, 2)) }

func (m *maker) block(fuel int) int {
	n := api.Node{Kind: api.NodeBlock, At: m.opens("{")}
	many := m.below(3)
	if fuel > 0 {
		many++
	}
	for i := range many {
		with := m.little(fuel)
		if i == 0 {
			with = fuel - 1
		}
		n.Kids = append(n.Kids, m.stmt(with))
	}
	m.closes("}")
	return m.put(n)
}

func (m *maker) stmt(fuel int) int {
	if fuel > 0 && m.often(60) {
		if m.often(70) {
			return m.ifStmt(fuel)
		}
		n := api.Node{Kind: api.NodeWhile, At: m.token("while")}
		n.Kids = append(n.Kids, m.expr(1, m.little(fuel)))
		n.Kids = append(n.Kids, m.block(fuel))
		return m.put(n)
	}
	shallow := 0
	if fuel <= 0 {
		shallow = 2
	}
	switch m.below(6 + shallow) {
	case 0:
		return m.varStmt(fuel)
	case 1:
		return m.putStmt(fuel)
	case 2:
		call := m.call(m.name(), fuel)
		at := m.tree.Nodes[call].At
		m.token(";")
		return m.put(api.Node{Kind: api.NodeDo, At: at, Kids: []int{call}})
	case 3:
		name := m.name()
		n := api.Node{Kind: api.NodeSet, Name: name, At: m.token(name)}
		m.token("=")
		return m.ended(n, fuel)
	case 6:
		return m.arrayStmt()
	case 7:
		word := pick(&m.odds, "break", "continue")
		at := m.token(word)
		m.token(";")
		return m.put(api.Node{Kind: map[string]api.NodeKind{"break": api.NodeBreak, "continue": api.NodeNext}[word], At: at})
	}
	word := pick(&m.odds, "return", "print")
	return m.ended(api.Node{Kind: map[string]api.NodeKind{"return": api.NodeReturn, "print": api.NodePrint}[word], At: m.token(word)}, fuel)
}

// ended is a statement whose last kid, and a ; behind it, are still to come.
func (m *maker) ended(n api.Node, fuel int) int {
	n.Kids = append(n.Kids, m.expr(1, fuel))
	m.token(";")
	return m.put(n)
}

func (m *maker) varStmt(fuel int) int {
	n := api.Node{Kind: api.NodeVar, At: m.token("var"), Name: m.name()}
	m.token(n.Name)
	var word string
	word, n.Type = m.typeName()
	m.token(word)
	m.token("=")
	return m.ended(n, fuel)
}

func (m *maker) arrayStmt() int {
	n := api.Node{Kind: api.NodeArray, At: m.token("var"), Name: m.name(), Size: pick(&m.odds, 1, 2, 77, 255, 256)}
	m.token(n.Name)
	m.token("[")
	m.token(pick(&m.odds, "", "0", "00") + strconv.Itoa(n.Size))
	m.token("]")
	var word string
	word, n.Type = m.typeName()
	m.token(word)
	m.token(";")
	return m.put(n)
}

func (m *maker) putStmt(fuel int) int {
	name := m.name()
	n := api.Node{Kind: api.NodePut, Name: name, At: m.token(name)}
	first, other := fuel, m.little(fuel)
	if m.often(50) {
		first, other = other, first
	}
	m.token("[")
	n.Kids = append(n.Kids, m.expr(1, first))
	m.token("]")
	m.token("=")
	return m.ended(n, other)
}

func (m *maker) ifStmt(fuel int) int {
	n := api.Node{Kind: api.NodeIf, At: m.token("if")}
	m.restOfIf(&n, fuel)
	return m.put(n)
}

func (m *maker) restOfIf(n *api.Node, fuel int) {
	n.Kids = append(n.Kids, m.expr(1, m.little(fuel)))
	first, other := fuel, m.little(fuel)
	if m.often(60) {
		first, other = other, first
	}
	n.Kids = append(n.Kids, m.block(first))
	if other <= first && m.often(50) {
		return
	}
	m.token("else")
	if other <= 0 || m.often(30) {
		n.Kids = append(n.Kids, m.block(other))
		return
	}
	inner := api.Node{Kind: api.NodeIf, At: m.opens("if")}
	m.restOfIf(&inner, other-1)
	m.open--
	n.Kids = append(n.Kids, m.put(api.Node{Kind: api.NodeBlock, At: inner.At, Kids: []int{m.put(inner)}}))
}

// expr is an expression of a row of the grammar: 6 is a unary.
func (m *maker) expr(row, fuel int) int {
	if row == 6 {
		return m.unary(fuel)
	}
	many := 0
	for m.often(8) {
		many++
	}
	deep := m.below(many + 1)
	with := func(i int) int {
		if i == deep {
			return fuel
		}
		return m.little(fuel)
	}
	left := m.expr(row+1, with(0))
	for i := range many {
		sign := pick(&m.odds, rows[row-1]...)
		n := api.Node{Kind: api.NodeBinary, Op: ops[sign], At: m.token(sign)}
		switch sign {
		case "||":
			n.Kind = api.NodeEither
		case "&&":
			n.Kind = api.NodeBoth
		}
		n.Kids = []int{left, m.expr(row+1, with(i+1))}
		left = m.put(n)
	}
	return left
}

func (m *maker) unary(fuel int) int {
	if fuel <= 0 || m.often(60) {
		return m.primary(fuel)
	}
	sign := pick(&m.odds, "-", "!")
	n := api.Node{Kind: api.NodeUnary, Op: map[string]api.Op{"-": api.OpNeg, "!": api.OpNot}[sign], At: m.opens(sign)}
	n.Kids = []int{m.unary(fuel - 1)}
	m.open--
	return m.put(n)
}

func (m *maker) primary(fuel int) int {
	if m.often(m.extra) || fuel > 0 && m.often(30) {
		m.opens("(")
		inner := m.expr(1, fuel-1)
		m.closes(")")
		return inner
	}
	if fuel <= 0 {
		return m.leaf()
	}
	switch m.below(3) {
	case 0:
		word, u := m.typeName()
		n := api.Node{Kind: api.NodeCast, Type: u, At: m.token(word)}
		m.opens("(")
		n.Kids = []int{m.expr(1, fuel-1)}
		m.closes(")")
		return m.put(n)
	case 1:
		name := m.name()
		n := api.Node{Kind: api.NodeItem, Name: name, At: m.token(name)}
		m.opens("[")
		n.Kids = []int{m.expr(1, fuel-1)}
		m.closes("]")
		return m.put(n)
	}
	return m.call(m.name(), fuel)
}

func (m *maker) call(name string, fuel int) int {
	n := api.Node{Kind: api.NodeCall, Name: name, At: m.token(name)}
	m.opens("(")
	many := m.below(3)
	if fuel > 0 {
		many++
	}
	deep := m.below(max(many, 1))
	for i := range many {
		if i > 0 {
			m.token(",")
		}
		with := m.little(fuel)
		if i == deep {
			with = fuel - 1
		}
		n.Kids = append(n.Kids, m.expr(1, with))
	}
	m.closes(")")
	return m.put(n)
}

func (m *maker) leaf() int {
	if m.often(50) {
		name := m.name()
		return m.put(api.Node{Kind: api.NodeName, Name: name, At: m.token(name)})
	}
	c := pick(&m.odds, []struct {
		text string
		u    api.Type
		w    uint64
	}{
		{"0", api.I64, 0}, {"007", api.I64, 7}, {"9223372036854775807", api.I64, 1<<63 - 1}, {"12i64", api.I64, 12}, {"2147483647i32", api.I32, 1<<31 - 1}, {"255u8", api.U8, 255}, {"0u8", api.U8, 0},
		{"true", api.Bool, 1}, {"false", api.Bool, 0}, {"0.5", api.F64, 0x3fe0000000000000}, {"1.0e+00", api.F64, 0x3ff0000000000000}, {"0.0", api.F64, 0}, {"1.7976931348623157e308", api.F64, 0x7fefffffffffffff},
	}...)
	return m.put(api.Node{Kind: api.NodeLit, Type: c.u, Bits: c.w, At: m.token(c.text)})
}

// laid is a row of tokens with a gap ahead of each and one behind the last, and the tokens' places; the last place is the end.
func laid(tokens []string, gap func() string) (string, []int) {
	var b strings.Builder
	var places []int
	for _, s := range tokens {
		b.WriteString(gap())
		places = append(places, b.Len())
		b.WriteString(s)
	}
	b.WriteString(gap())
	return b.String(), append(places, b.Len())
}

// placed is the tree with the places of its tokens.
func placed(t api.Tree, places []int) api.Tree {
	t = copied(t, true)
	for i := range t.Nodes {
		t.Nodes[i].At = places[t.Nodes[i].At]
	}
	for i, f := range t.Funcs {
		t.Funcs[i].At = places[f.At]
		for j := range f.Params {
			f.Params[j].At = places[f.Params[j].At]
		}
	}
	return t
}

// gap is of blanks and remarks, with a blank ahead of all, as a remark right behind a / would begin with that.
func (m *maker) gap() string {
	return pick(&m.odds, " ", " ", " ", "\n", "\t", "\r\n", " // }\n", " //\n", "\n// func $ 1.\r \x80\n\t//\n ")
}

func oneBlank() string { return " " }

// makers are so many makers, each with a source of its own, some of them too deep.
func makers(n int) func(func(*maker) bool) {
	o := firstOdd
	return func(yield func(*maker) bool) {
		for i := range n {
			o.below(2)
			m := newMaker(o)
			m.source(pick(&o, 0, 3, 6, 20, 24, 28, 30, 31, 32, 33+i%10))
			if !yield(m) {
				return
			}
		}
	}
}

// kindsOf are the kinds of a tree's nodes.
func kindsOf(t api.Tree) []api.NodeKind {
	var l []api.NodeKind
	for _, n := range t.Nodes {
		if !slices.Contains(l, n.Kind) {
			l = append(l, n.Kind)
		}
	}
	return l
}
