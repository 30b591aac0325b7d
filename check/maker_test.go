package check_test

import (
	"slices"
	"strconv"
	"testing"

	"smithy/api"
	"smithy/check"
	"smithy/scalar"
)

// maker makes trees without a fault, with places without a pattern, and beside each what Check must tell of it.
type maker struct {
	odds
	tree   api.Tree
	info   api.Info
	locals []api.Local
	seen   []int // numbers of locals
	words  int
	loops  int
	result api.Type
}

func (m *maker) place() int { return int(int32(m.word() >> 20)) }

// add puts a node behind the others: its type, if it is an expression, and what its name stands for.
func (m *maker) add(n api.Node, u api.Type, means int) int {
	n.At = m.place()
	m.tree.Nodes = append(m.tree.Nodes, n)
	m.info.Types = append(m.info.Types, u)
	m.info.Means = append(m.info.Means, means)
	return len(m.tree.Nodes) - 1
}

func (m *maker) anyType() api.Type { return pick(&m.odds, api.Bool, api.U8, api.I32, api.I64, api.F64) }

func (m *maker) anyNumber() api.Type { return pick(&m.odds, api.U8, api.I32, api.I64, api.F64) }

// some is the number of a local that is seen, of a type, and an array or not; -1, if there is none.
func (m *maker) some(u api.Type, array bool) int {
	var l []int
	for _, i := range m.seen {
		if m.locals[i].Type == u && m.locals[i].Size > 0 == array {
			l = append(l, i)
		}
	}
	if len(l) == 0 {
		return -1
	}
	return pick(&m.odds, l...)
}

var names = []string{"a", "b", "c", "d", "f0", "f1", "f2"}

// free is a name that is not seen; "", if there is none.
func (m *maker) free() string {
	name := pick(&m.odds, names...)
	for _, i := range m.seen {
		if m.locals[i].Name == name {
			return ""
		}
	}
	return name
}

func (m *maker) declare(l api.Local) int {
	m.locals = append(m.locals, l)
	m.seen = append(m.seen, len(m.locals)-1)
	m.words += max(1, l.Size)
	return len(m.locals) - 1
}

// expr makes an expression of a type, with at most so many in one another.
func (m *maker) expr(u api.Type, deep int) int {
	for {
		form := m.below(9)
		if deep == 0 {
			form %= 2
		}
		switch form {
		case 0:
			return m.literal(u)
		case 1:
			if i := m.some(u, false); i >= 0 {
				return m.add(api.Node{Kind: api.NodeName, Name: m.locals[i].Name}, u, i)
			}
		case 2:
			if i := m.some(u, true); i >= 0 {
				index := m.expr(api.I64, deep-1)
				return m.add(api.Node{Kind: api.NodeItem, Name: m.locals[i].Name, Kids: []int{index}}, u, i)
			}
		case 3:
			if f := m.below(len(m.tree.Funcs)); m.tree.Funcs[f].Result == u {
				return m.call(f, deep)
			}
		case 4:
			if u != api.Bool {
				kid := m.expr(m.anyNumber(), deep-1)
				return m.add(api.Node{Kind: api.NodeCast, Type: u, Kids: []int{kid}}, u, -1)
			}
		case 5:
			if op := pick(&m.odds, api.OpNeg, api.OpNot); op == api.OpNeg && u != api.Bool || op == api.OpNot && u != api.F64 {
				kid := m.expr(u, deep-1)
				return m.add(api.Node{Kind: api.NodeUnary, Op: op, Kids: []int{kid}}, u, -1)
			}
		case 6:
			if u == api.Bool {
				kids := []int{m.expr(u, deep-1), m.expr(u, deep-1)}
				return m.add(api.Node{Kind: pick(&m.odds, api.NodeBoth, api.NodeEither), Kids: kids}, u, -1)
			}
		default:
			op, of := api.OpAdd+api.Op(m.below(16)), m.anyType()
			if told, ok := scalar.Of(op, of); ok && told == u {
				kids := []int{m.expr(of, deep-1), m.expr(of, deep-1)}
				return m.add(api.Node{Kind: api.NodeBinary, Op: op, Kids: kids}, u, -1)
			}
		}
	}
}

func (m *maker) literal(u api.Type) int {
	return m.add(api.Node{Kind: api.NodeLit, Type: u, Bits: uint64(m.below(2))}, u, -1)
}

func (m *maker) call(f, deep int) int {
	n := api.Node{Kind: api.NodeCall, Name: m.tree.Funcs[f].Name}
	for _, p := range m.tree.Funcs[f].Params {
		n.Kids = append(n.Kids, m.expr(p.Type, max(0, deep-1)))
	}
	return m.add(n, m.tree.Funcs[f].Result, f)
}

func (m *maker) block(deep int) int {
	n := api.Node{Kind: api.NodeBlock}
	seen := len(m.seen)
	for range m.below(6) {
		n.Kids = append(n.Kids, m.stmt(deep))
	}
	m.seen = m.seen[:seen]
	return m.add(n, api.NoType, -1)
}

func (m *maker) stmt(deep int) int {
	for {
		if i := m.tryStmt(m.below(11), deep); i >= 0 {
			return i
		}
	}
}

// tryStmt is -1, if there can't be such a statement here.
func (m *maker) tryStmt(form, deep int) int {
	u := m.anyType()
	n := api.Node{}
	means := -1
	switch form {
	case 0, 1:
		name := m.free()
		if name == "" || len(m.locals) > 50 || m.words > 900 {
			return -1
		}
		n = api.Node{Kind: api.NodeArray, Name: name, Type: u, Size: 1 + m.below(40)}
		if form == 0 {
			n = api.Node{Kind: api.NodeVar, Name: name, Type: u, Kids: []int{m.expr(u, 3)}}
		}
		means = m.declare(api.Local{Name: name, Type: u, Size: n.Size})
	case 2, 3:
		means = m.some(u, form == 3)
		if means < 0 {
			return -1
		}
		n = api.Node{Kind: api.NodeSet, Name: m.locals[means].Name}
		if form == 3 {
			n.Kind, n.Kids = api.NodePut, []int{m.expr(api.I64, 2)}
		}
		n.Kids = append(n.Kids, m.expr(u, 3))
	case 4, 5:
		if deep == 0 {
			return -1
		}
		n = m.branches(deep)
	case 6:
		if m.loops == 0 {
			return -1
		}
		n.Kind = pick(&m.odds, api.NodeBreak, api.NodeNext)
	case 7:
		n = api.Node{Kind: api.NodeReturn, Kids: []int{m.expr(m.result, 4)}}
	case 8:
		n = api.Node{Kind: api.NodePrint, Kids: []int{m.expr(u, 4)}}
	default:
		n = api.Node{Kind: api.NodeDo, Kids: []int{m.call(m.below(len(m.tree.Funcs)), 2)}}
	}
	return m.add(n, api.NoType, means)
}

func (m *maker) branches(deep int) api.Node {
	n := api.Node{Kind: api.NodeIf, Kids: []int{m.expr(api.Bool, 2)}}
	if m.often(40) {
		n.Kind = api.NodeWhile
		m.loops++
		defer func() { m.loops-- }()
	}
	n.Kids = append(n.Kids, m.block(deep-1))
	if n.Kind == api.NodeIf && m.often(50) {
		n.Kids = append(n.Kids, m.block(deep-1))
	}
	return n
}

func (m *maker) make() (api.Tree, api.Info) {
	*m = maker{odds: m.odds}
	for i := range 1 + m.below(3) {
		f := api.Func{Name: "f" + strconv.Itoa(i), At: m.place(), Result: m.anyType()}
		for _, name := range names[:m.below(4)] {
			f.Params = append(f.Params, api.Param{Name: name, At: m.place(), Type: m.anyType()})
		}
		m.tree.Funcs = append(m.tree.Funcs, f)
	}
	for i, f := range m.tree.Funcs {
		m.locals, m.seen, m.words, m.result = nil, nil, 0, f.Result
		for _, p := range f.Params {
			m.declare(api.Local{Name: p.Name, Type: p.Type})
		}
		m.tree.Funcs[i].Body = m.block(3)
		m.info.Locals = append(m.info.Locals, m.locals)
	}
	return m.tree, m.info
}

// Of trees that are made without a fault just what they were made of is told.
func TestMadeTrees(t *testing.T) {
	m := maker{odds: firstOdd}
	kinds, most, again := map[api.NodeKind]bool{}, 0, 0
	for i := range 4000 {
		tree, info := m.make()
		wantInfo(t, tree, info, "made tree "+strconv.Itoa(i))
		if want := reference(tree); want != (api.Fault{}) {
			t.Errorf("made tree %d: the reference tells %v", i, want)
		}
		if t.Failed() {
			return
		}
		for _, n := range tree.Nodes {
			kinds[n.Kind] = true
		}
		most = max(most, len(tree.Nodes))
		for _, l := range info.Locals {
			slices.SortFunc(l, func(a, b api.Local) int { return int(a.Name[0]) - int(b.Name[0]) })
			again += len(l) - len(slices.CompactFunc(l, func(a, b api.Local) bool { return a.Name == b.Name }))
		}
	}
	if len(kinds) != int(api.NodeBlock) || most < 500 || again < 1000 {
		t.Errorf("%d kinds of nodes, at most %d nodes, names taken again %d times", len(kinds), most, again)
	}
}

// spoil changes something of a tree.
func (m *maker) spoil(t *api.Tree) {
	if m.often(5) {
		m.spoilHead(&t.Funcs[m.below(len(t.Funcs))])
		return
	}
	n := &t.Nodes[m.below(len(t.Nodes))]
	name := pick(&m.odds, "a", "b", "c", "d", "f0", "f1", "f2", "z")
	switch {
	case m.often(30):
		m.spoilKind(n, name)
	case n.Name != "":
		n.Name = name
	case n.Kind == api.NodeLit:
		n.Type = m.anyType()
	case n.Kind == api.NodeUnary:
		n.Op = pick(&m.odds, api.OpNeg, api.OpNot)
	case n.Kind == api.NodeBinary:
		n.Op = api.OpAdd + api.Op(m.below(16))
	}
	if n.Type != api.NoType && m.often(30) {
		n.Type = m.anyType()
	}
}

func (m *maker) spoilHead(f *api.Func) {
	switch m.below(4) {
	case 0:
		f.Name = pick(&m.odds, "f0", "f1", "f2", "g")
	case 1:
		f.Result = m.anyType()
	case 2:
		for range pick(&m.odds, 1, 1, 1, 9) {
			f.Params = append(f.Params, api.Param{Name: pick(&m.odds, "a", "e", "g", "h"), At: m.place(), Type: m.anyType()})
		}
	case 3:
		f.Params = f.Params[:m.below(len(f.Params)+1)]
	}
}

// spoilKind makes a node of another one, of which a tree may be right, too.
func (m *maker) spoilKind(n *api.Node, name string) {
	to := api.Node{At: n.At, Kids: n.Kids}
	switch n.Kind {
	case api.NodeLit, api.NodeName:
		to.Kind, to.Name = pick(&m.odds, api.NodeName, api.NodeCall), name
	case api.NodeItem, api.NodeCast, api.NodeUnary:
		to.Kind, to.Name = pick(&m.odds, api.NodeItem, api.NodeCall), name
	case api.NodeBinary, api.NodeBoth, api.NodeEither:
		to.Kind = pick(&m.odds, api.NodeBoth, api.NodeEither)
	case api.NodeVar, api.NodeSet, api.NodeReturn, api.NodePrint:
		to.Kind, to.Name, to.Type = api.NodeVar, name, m.anyType()
		if m.often(50) {
			to.Kind, to.Type = api.NodeSet, api.NoType
		}
	case api.NodeArray, api.NodeBreak, api.NodeNext:
		to.Kind = pick(&m.odds, api.NodeBreak, api.NodeNext)
		if m.often(50) {
			to.Kind, to.Name, to.Type, to.Size = api.NodeArray, name, m.anyType(), pick(&m.odds, 1, 250, 256)
		}
	case api.NodeIf, api.NodeWhile:
		to.Kind = api.NodeIf
		if len(to.Kids) == 2 && m.often(50) {
			to.Kind = api.NodeWhile
		}
	default:
		return
	}
	*n = to
}

// Of trees that are spoilt in some places the first fault of the walk is told.
func TestSpoiltTrees(t *testing.T) {
	m := maker{odds: firstOdd}
	told := map[api.Errno]int{}
	for range 3000 {
		made, _ := m.make()
		for range 6 {
			tree := copied(made)
			for range pick(&m.odds, 1, 1, 2, 4, 8, 20) {
				m.spoil(&tree)
			}
			want := reference(tree)
			told[want.Err]++
			info, f := check.Check(tree)
			if f != want {
				t.Fatalf("%v: Check tells the fault %v; want %v", tree, f, want)
			}
			if f.Err != api.OK && len(info.Types)+len(info.Means)+len(info.Locals) > 0 {
				t.Fatalf("beside the fault %v Check tells %v", f, info)
			}
		}
	}
	for _, err := range []api.Errno{api.OK, api.ErrName, api.ErrType, api.ErrFrame, api.ErrBreak} {
		if told[err] < 50 {
			t.Errorf("the fault %d came only %d times", err, told[err])
		}
	}
	t.Log(told)
}
