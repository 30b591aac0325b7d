package spell_test

import (
	"strconv"
	"testing"

	"smithy/api"
	"smithy/spell"
)

// maker makes trees by the grammar, and beside each the text that the chapter asks for.
type maker struct {
	odds
	nodes []api.Node
	text  []byte
	tabs  int
}

func (m *maker) add(n api.Node) int {
	m.nodes = append(m.nodes, n)
	return len(m.nodes) - 1
}

func (m *maker) say(text string) { m.text = append(m.text, text...) }

func (m *maker) sayType() api.Type {
	word := pick(&m.odds, "bool", "u8", "i32", "i64", "f64")
	m.say(word)
	return types[word]
}

func (m *maker) sayName() string {
	name := pick(&m.odds, "a", "b", "x1", "_", "fun", "e", "u", "i32_", "n0123456789012345678901234567890", "True")
	m.say(name)
	return name
}

// expr makes an expression that may stand in a row of the grammar (from 1 on), with at most so many things in one another.
func (m *maker) expr(row, deep int) int {
	form := m.below(11)
	if deep == 0 {
		form = 9 + m.below(2)
	}
	own := 7
	if form < 5 {
		own = form + 1
	} else if form == 5 {
		own = 6
	}
	if own < row {
		m.say("(")
		defer m.say(")")
	}
	switch {
	case own < 6:
		return m.two(own, deep)
	case form == 5:
		sign := pick(&m.odds, "-", "!")
		m.say(sign)
		op := map[string]api.Op{"-": api.OpNeg, "!": api.OpNot}[sign]
		return m.add(api.Node{Kind: api.NodeUnary, Op: op, Kids: []int{m.expr(6, deep-1)}})
	case form == 6:
		name := m.sayName()
		m.say("[")
		defer m.say("]")
		return m.add(api.Node{Kind: api.NodeItem, Name: name, Kids: []int{m.expr(1, deep-1)}})
	case form == 7:
		return m.call(deep)
	case form == 8:
		u := m.sayType()
		m.say("(")
		defer m.say(")")
		return m.add(api.Node{Kind: api.NodeCast, Type: u, Kids: []int{m.expr(1, deep-1)}})
	case form == 9:
		return m.literal()
	}
	return m.add(api.Node{Kind: api.NodeName, Name: m.sayName()})
}

func (m *maker) two(row, deep int) int {
	n := api.Node{Kind: api.NodeBinary}
	left := m.expr(row, deep-1)
	sign := pick(&m.odds, rows[row-1]...)
	n.Op = ops[sign]
	if row == 1 {
		n.Kind = api.NodeEither
	} else if row == 2 {
		n.Kind = api.NodeBoth
	}
	m.say(" " + sign + " ")
	n.Kids = []int{left, m.expr(row+1, deep-1)}
	return m.add(n)
}

func (m *maker) call(deep int) int {
	n := api.Node{Kind: api.NodeCall, Name: m.sayName()}
	m.say("(")
	for i := range m.below(4) {
		if i > 0 {
			m.say(", ")
		}
		n.Kids = append(n.Kids, m.expr(1, deep-1))
	}
	m.say(")")
	return m.add(n)
}

func (m *maker) literal() int {
	n := api.Node{Kind: api.NodeLit}
	whole := func(u api.Type, most uint64, behind string) {
		n.Type, n.Bits = u, pick(&m.odds, 0, 1, 7, 10, most-1, most, m.word()%(most+1))
		m.say(strconv.FormatUint(n.Bits, 10) + behind)
	}
	switch m.below(5) {
	case 0:
		n.Type, n.Bits = api.Bool, uint64(m.below(2))
		m.say([]string{"false", "true"}[n.Bits])
	case 1:
		whole(api.U8, 255, "u8")
	case 2:
		whole(api.I32, 1<<31-1, "i32")
	case 3:
		whole(api.I64, 1<<63-1, "")
	case 4:
		f := floats[m.below(len(floats))]
		n.Type, n.Bits = api.F64, f.bits
		m.say(f.text)
	}
	return m.add(n)
}

func (m *maker) line() { m.say("\n" + times("\t", m.tabs)) }

// block makes a block in braces; what stands behind them goes on in that line.
func (m *maker) block(deep int) int {
	m.say("{")
	m.tabs++
	n := api.Node{Kind: api.NodeBlock}
	for range m.below(4) {
		m.line()
		n.Kids = append(n.Kids, m.stmt(deep))
	}
	m.tabs--
	m.line()
	m.say("}")
	return m.add(n)
}

func (m *maker) stmt(deep int) int {
	form := m.below(11)
	if deep == 0 {
		form %= 9
	}
	if form == 9 {
		m.say("while ")
		n := api.Node{Kind: api.NodeWhile, Kids: []int{m.expr(1, 2)}}
		m.say(" ")
		n.Kids = append(n.Kids, m.block(deep-1))
		return m.add(n)
	}
	if form == 10 {
		return m.choice(deep)
	}
	defer m.say(";")
	return m.plain(form)
}

func (m *maker) choice(deep int) int {
	m.say("if ")
	n := api.Node{Kind: api.NodeIf, Kids: []int{m.expr(1, 2)}}
	m.say(" ")
	n.Kids = append(n.Kids, m.block(deep-1))
	switch m.below(3) {
	case 1:
		m.say(" else ")
		if deep > 1 {
			n.Kids = append(n.Kids, m.add(api.Node{Kind: api.NodeBlock, Kids: []int{m.choice(deep - 1)}}))
			break
		}
		n.Kids = append(n.Kids, m.otherBlock(deep-1))
	case 2:
		m.say(" else ")
		n.Kids = append(n.Kids, m.otherBlock(deep-1))
	}
	return m.add(n)
}

// otherBlock is a block that is no if alone: it would stand without braces.
func (m *maker) otherBlock(deep int) int {
	from, text := len(m.nodes), len(m.text)
	for {
		at := m.block(deep)
		kids := m.nodes[at].Kids
		if len(kids) != 1 || m.nodes[kids[0]].Kind != api.NodeIf {
			return at
		}
		m.nodes, m.text = m.nodes[:from], m.text[:text]
	}
}

func (m *maker) plain(form int) int {
	switch form {
	case 0:
		n := api.Node{Kind: api.NodeVar}
		m.say("var ")
		n.Name = m.sayName()
		m.say(" ")
		n.Type = m.sayType()
		m.say(" = ")
		n.Kids = []int{m.expr(1, 3)}
		return m.add(n)
	case 1:
		n := api.Node{Kind: api.NodeArray, Size: pick(&m.odds, 1, 2, 9, 10, 255, 256)}
		m.say("var ")
		n.Name = m.sayName()
		m.say(" [" + strconv.Itoa(n.Size) + "]")
		n.Type = m.sayType()
		return m.add(n)
	case 2:
		n := api.Node{Kind: api.NodeSet, Name: m.sayName()}
		m.say(" = ")
		n.Kids = []int{m.expr(1, 5)}
		return m.add(n)
	case 3:
		n := api.Node{Kind: api.NodePut, Name: m.sayName()}
		m.say("[")
		index := m.expr(1, 3)
		m.say("] = ")
		n.Kids = []int{index, m.expr(1, 3)}
		return m.add(n)
	case 4:
		return m.add(api.Node{Kind: api.NodeDo, Kids: []int{m.call(3)}})
	case 5:
		m.say("break")
		return m.add(api.Node{Kind: api.NodeBreak})
	case 6:
		m.say("continue")
		return m.add(api.Node{Kind: api.NodeNext})
	case 7:
		m.say("return ")
		return m.add(api.Node{Kind: api.NodeReturn, Kids: []int{m.expr(1, 5)}})
	}
	m.say("print ")
	return m.add(api.Node{Kind: api.NodePrint, Kids: []int{m.expr(1, 5)}})
}

func (m *maker) function() api.Func {
	m.say("func ")
	f := api.Func{Name: m.sayName()}
	m.say("(")
	for i := range m.below(4) {
		if i > 0 {
			m.say(", ")
		}
		p := api.Param{Name: m.sayName()}
		m.say(" ")
		p.Type = m.sayType()
		f.Params = append(f.Params, p)
	}
	m.say(") ")
	f.Result = m.sayType()
	m.say(" ")
	f.Body = m.block(3)
	m.say("\n")
	return f
}

// tree makes a tree of some functions, and its text.
func (m *maker) tree() (api.Tree, string) {
	m.nodes, m.text, m.tabs = nil, nil, 0
	var t api.Tree
	for range m.below(4) {
		t.Funcs = append(t.Funcs, m.function())
	}
	t.Nodes = m.nodes
	return t, string(m.text)
}

func TestMadeTrees(t *testing.T) {
	m := maker{odds: firstOdd}
	kinds, longest := map[api.NodeKind]bool{}, 0
	for range 4000 {
		tree, text := m.tree()
		wantPrint(t, tree, text)
		if t.Failed() {
			return
		}
		for _, n := range tree.Nodes {
			kinds[n.Kind] = true
		}
		longest = max(longest, len(text))
	}
	if len(kinds) != int(api.NodeBlock) || longest < 1000 || longest > api.MaxSource {
		t.Errorf("%d kinds of nodes, at most %d bytes", len(kinds), longest)
	}
}

// Trees that are Same are printed alike, whatever their places.
func TestPlacesPlayNoPart(t *testing.T) {
	m := maker{odds: firstOdd}
	places := firstOdd
	for range 300 {
		tree, text := m.tree()
		other := placed(tree, func() int { return int(places.word()) })
		if !spell.Same(tree, other) || !spell.Same(other, tree) {
			t.Fatalf("%s: not Same but for places", short(text))
		}
		wantPrint(t, other, text)
	}
}
