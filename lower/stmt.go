package lower

import "smithy/api"

func (m *maker) block(i int) {
	for _, kid := range m.nodes[i].Kids {
		m.statement(kid)
	}
}

func (m *maker) statement(i int) {
	n := &m.nodes[i]
	switch n.Kind {
	case api.NodeVar, api.NodeSet:
		m.set(m.vars[m.info.Means[i]], m.expression(n.Kids[0]))
	case api.NodeArray:
		m.put(api.Ins{Kind: api.InsClear, Ref: m.arrays[m.info.Means[i]]})
	case api.NodePut:
		m.store(m.arrays[m.info.Means[i]], n)
	case api.NodeIf:
		m.choice(n)
	case api.NodeWhile:
		m.while(n)
	case api.NodeBreak:
		m.jump(m.behind, m.newBlock())
	case api.NodeNext:
		m.jump(m.head, m.newBlock())
	case api.NodeReturn:
		m.tell(m.expression(n.Kids[0]))
	case api.NodePrint:
		v := m.expression(n.Kids[0])
		m.put(api.Ins{Kind: api.InsPrint}, v)
		m.giveBack(v)
	case api.NodeDo:
		m.giveBack(m.expression(n.Kids[0]))
	}
}

// store asks for the index behind what is put.
func (m *maker) store(array int, n *api.Node) {
	index := m.expression(n.Kids[0])
	v := m.expression(n.Kids[1])
	m.askIndex(array, index)
	m.put(api.Ins{Kind: api.InsStore, Ref: array}, index, v)
	m.giveBack(index, v)
}

func (m *maker) choice(n *api.Node) {
	v := m.expression(n.Kids[0])
	m.giveBack(v)
	first, behind := m.newBlock(), m.newBlock()
	other := behind
	if len(n.Kids) > 2 {
		other = m.newBlock()
	}
	m.branch(v, first, other, first)
	m.block(n.Kids[1])
	m.jump(behind, other)
	if other != behind {
		m.block(n.Kids[2])
		m.jump(behind, behind)
	}
}

// while has a block at its head for its condition, whatever is reckoned there: each time round goes through it.
func (m *maker) while(n *api.Node) {
	outer := m.loop
	body := m.newBlock()
	m.loop = loop{head: m.newBlock(), behind: m.newBlock()}
	m.jump(m.head, m.head)
	v := m.expression(n.Kids[0])
	m.giveBack(v)
	m.branch(v, body, m.behind, body)
	m.block(n.Kids[1])
	m.jump(m.head, m.behind)
	m.loop = outer
}
