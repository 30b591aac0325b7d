package lower_test

import (
	"strconv"
	"strings"
	"testing"

	"smithy/api"
	"smithy/check"
)

// maker makes sources without a fault that come to all sorts of ends.
type maker struct {
	odds
	heads  []head
	at     int // which function is made
	seen   []variable
	locals int
	loops  int
}

// head is what is known of a function ahead of its body.
type head struct {
	name   string
	params []typed
	result typed
}

type variable struct {
	name string
	of   typed
	size int
	kept bool // counts a loop: it is never set otherwise
}

func (m *maker) anyType() typed { return types[m.below(len(types))] }

// make is a source of some functions; heads tells which.
func (m *maker) make() string {
	*m = maker{odds: m.odds}
	for i := range 1 + m.below(4) {
		h := head{name: "f" + strconv.Itoa(i), result: m.anyType()}
		for range m.below(4) {
			h.params = append(h.params, m.anyType())
		}
		m.heads = append(m.heads, h)
	}
	var all strings.Builder
	for i, h := range m.heads {
		m.at, m.seen, m.locals = i, nil, 0
		all.WriteString("func " + h.name + "(")
		for j, p := range h.params {
			if j > 0 {
				all.WriteString(", ")
			}
			all.WriteString(m.declare(p, 0) + " " + p.word)
		}
		all.WriteString(") " + h.result.word + " " + m.block(3) + "\n")
	}
	return all.String()
}

// declare is a name that is not seen.
func (m *maker) declare(of typed, size int) string {
	m.locals++
	for {
		name := pick(&m.odds, "a", "b", "c", "d") + pick(&m.odds, "", "", "1", "2", "3", "4")
		if m.index(name) < 0 {
			m.seen = append(m.seen, variable{name: name, of: of, size: size})
			return name
		}
	}
}

func (m *maker) index(name string) int {
	for i, v := range m.seen {
		if v.name == name {
			return i
		}
	}
	return -1
}

func (m *maker) block(deep int) string {
	was := len(m.seen)
	text := "{ "
	for range 1 + m.below(4) {
		text += m.stmt(deep) + " "
	}
	m.seen = m.seen[:was]
	return text + "}"
}

func (m *maker) stmt(deep int) string {
	for {
		if text := m.tryStmt(m.below(14), deep); text != "" {
			return text
		}
	}
}

// tryStmt is "", if there can't be such a statement here.
func (m *maker) tryStmt(form, deep int) string {
	u := m.anyType()
	full := m.locals > 20 || len(m.seen) > 15
	switch {
	case form == 0 && !full:
		text := m.expr(u, 3)
		return "var " + m.declare(u, 0) + " " + u.word + " = " + text + ";"
	case form == 1 && !full:
		size := 1 + m.below(5)
		return "var " + m.declare(u, size) + "[" + strconv.Itoa(size) + "] " + u.word + ";"
	case form <= 3:
		if v := m.some(u, false); v != nil && !v.kept {
			return v.name + " = " + m.expr(u, 3) + ";"
		}
	case form <= 5:
		if v := m.some(u, true); v != nil {
			return v.name + "[" + m.place(v.size, 2) + "] = " + m.expr(u, 3) + ";"
		}
	case form <= 7 && deep > 0:
		return "if " + m.expr(types[0], 2) + " " + m.block(deep-1) + m.other(deep)
	case form <= 9 && deep > 0 && !full:
		return m.loop(deep)
	case form == 10 && m.loops > 0:
		return pick(&m.odds, "break;", "continue;")
	case form == 11 && m.often(30):
		return "return " + m.expr(m.heads[m.at].result, 3) + ";"
	case form == 12:
		return m.call(m.below(len(m.heads)), 2) + ";"
	case form == 13:
		return "print " + m.expr(u, 3) + ";"
	}
	return ""
}

func (m *maker) other(deep int) string {
	switch m.below(3) {
	case 0:
		return " else " + m.block(deep-1)
	case 1:
		return " else if " + m.expr(types[0], 2) + " " + m.block(deep-1)
	}
	return ""
}

// loop mostly counts, so that runs come to what stands behind it.
func (m *maker) loop(deep int) string {
	m.loops++
	defer func() { m.loops-- }()
	if m.often(15) {
		return "while " + m.expr(types[0], 2) + " " + m.block(deep-1)
	}
	name := m.declare(types[3], 0)
	m.seen[len(m.seen)-1].kept = true
	text := "var " + name + " i64 = 0; while " + name + " < " + strconv.Itoa(m.below(4)) + " { " + name + " = " + name + " + 1; "
	return text + m.block(deep - 1)[2:]
}

// some is a local that is seen, of a type, and an array or not; nil, if there is none.
func (m *maker) some(u typed, array bool) *variable {
	var l []*variable
	for i, v := range m.seen {
		if v.of.Type == u.Type && v.size > 0 == array {
			l = append(l, &m.seen[i])
		}
	}
	if len(l) == 0 {
		return nil
	}
	return pick(&m.odds, l...)
}

// place is an index that mostly says an element.
func (m *maker) place(size, deep int) string {
	if m.often(10) {
		return m.expr(types[3], deep)
	}
	text := strconv.Itoa(m.below(size))
	if m.often(2) {
		text = pick(&m.odds, strconv.Itoa(size), "-1")
	}
	if v := m.some(types[3], false); v != nil && m.often(40) {
		text = v.name + " & " + text
	}
	return text
}

// expr is an expression of a type, with at most so many in one another.
func (m *maker) expr(u typed, deep int) string {
	for {
		if text := m.tryExpr(u, deep); text != "" {
			return text
		}
	}
}

func (m *maker) tryExpr(u typed, deep int) string {
	form := m.below(10)
	if deep == 0 {
		form %= 2
	}
	switch form {
	case 0:
		return m.literal(u)
	case 1, 2:
		if v := m.some(u, false); v != nil {
			return v.name
		}
	case 3:
		if v := m.some(u, true); v != nil {
			return v.name + "[" + m.place(v.size, deep-1) + "]"
		}
	case 4:
		if f := m.below(len(m.heads)); m.heads[f].result.Type == u.Type && (f > m.at || m.often(30)) {
			return m.call(f, deep-1)
		}
	case 5:
		if from := types[1+m.below(4)]; u.Type != api.Bool && (from.Type != api.F64 || m.often(30)) {
			return u.word + "(" + m.expr(from, deep-1) + ")"
		}
	case 6:
		sign := pick(&m.odds, "-", "!")
		if sign == "-" && u.Type != api.Bool || sign == "!" && u.Type != api.F64 {
			return sign + "(" + m.expr(u, deep-1) + ")"
		}
	case 7:
		if u.Type == api.Bool {
			return "(" + m.expr(u, deep-1) + ")" + pick(&m.odds, " && ", " || ") + "(" + m.expr(u, deep-1) + ")"
		}
	default:
		return m.two(u, deep)
	}
	return ""
}

func (m *maker) two(u typed, deep int) string {
	signs, of := []string{"+", "-", "*", "/", "%", "&", "|", "^", "<<", ">>"}, u
	if u.Type == api.F64 {
		signs = signs[:4]
	}
	if u.Type == api.Bool {
		signs, of = []string{"<", "<=", ">", ">=", "==", "!="}, m.anyType()
		if of.Type == api.Bool {
			signs = []string{"==", "!=", "&", "|", "^"}
		}
	}
	sign := pick(&m.odds, signs...)
	if (sign == "/" || sign == "%") && of.Type != api.F64 && m.often(90) {
		return "(" + m.expr(of, deep-1) + ") " + sign + " " + strconv.Itoa(1+m.below(9)) + of.behind
	}
	return "(" + m.expr(of, deep-1) + ") " + sign + " (" + m.expr(of, deep-1) + ")"
}

func (m *maker) literal(u typed) string {
	switch u.Type {
	case api.Bool:
		return pick(&m.odds, "true", "false")
	case api.F64:
		return pick(&m.odds, "0.0", "1.5", "2.0e+3", "255.9", "1.0e-3", "7.25")
	}
	return strconv.Itoa(pick(&m.odds, 0, 1, 2, m.below(128))) + u.behind
}

func (m *maker) call(f, deep int) string {
	var l []string
	for _, p := range m.heads[f].params {
		l = append(l, m.expr(p, max(deep, 0)))
	}
	return m.heads[f].name + "(" + strings.Join(l, ", ") + ")"
}

// words are some for the parameters of a function of the last source.
func (m *maker) words(f int) []uint64 {
	var l []uint64
	for _, p := range m.heads[f].params {
		l = append(l, pick(&m.odds, p.words...))
	}
	return l
}

// next is a source that is made, lowered, with a function's place and words for it.
func (m *maker) next(t *testing.T) program {
	t.Helper()
	src := m.make()
	tree := taken(t, src)
	if fault, there := checked(tree); there {
		t.Fatalf("%s: a fault %v", short(src), fault)
	}
	f := m.below(len(m.heads))
	return program{src, tree, lowered(t, tree, src), f, m.words(f)}
}

// checked is a tree's fault, and whether there is one.
func checked(tree api.Tree) (api.Fault, bool) {
	_, fault := check.Check(tree)
	return fault, fault != (api.Fault{})
}

// Graphs of sources that are made do what the sources mean, with many steps and with few, and with any depth.
func TestMadeSources(t *testing.T) {
	m := maker{odds: firstOdd}
	ends, traps, kinds, shown := map[api.End]int{}, map[api.Trap]int{}, map[api.NodeKind]int{}, 0
	for range 5000 {
		c := m.next(t)
		for _, steps := range []int{300, m.below(30)} {
			for _, depth := range []int{20, 1 + m.below(4)} {
				meaning, _ := c.wantKept(t, steps, depth)
				ends[meaning.End]++
				traps[meaning.Trap]++
				shown = max(shown, len(meaning.Shows))
			}
		}
		for _, n := range c.tree.Nodes {
			kinds[n.Kind]++
		}
	}
	if len(ends) != 4 || len(traps) != 4 || len(kinds) != int(api.NodeBlock) || shown < 50 {
		t.Errorf("only ends %v, traps %v, kinds of nodes %v, at most %d shown", ends, traps, kinds, shown)
	}
	for end, n := range ends {
		if n < 300 {
			t.Errorf("the end %d came only %d times", end, n)
		}
	}
}

// Cut at any number of steps, a run shows the beginning of what is meant.
func TestMadeSourcesCut(t *testing.T) {
	m := maker{odds: firstOdd + 1}
	for range 1500 {
		m.next(t).wantCut(t, 40, 1+m.below(6))
	}
}

// What the graphs show, with any number of steps, and what is meant, with any other number, begin alike.
func TestNeverMore(t *testing.T) {
	m := maker{odds: firstOdd + 2}
	longer, shorter := 0, 0
	for range 1500 {
		c := m.next(t)
		depth := m.below(8)
		for range 8 {
			trace := ran(t, c.graphs, c.f, c.args, m.below(200), depth, c.src)
			meaning := meant(t, c.tree, c.f, c.args, m.below(40), depth, c.src)
			if !begins(trace.Shows, meaning.Shows) || ends(meaning) && len(trace.Shows) > len(meaning.Shows) || ends(trace) && len(meaning.Shows) > len(trace.Shows) {
				t.Fatalf("%s\nfunction %d of %x, depth %d: %v is meant, but its graphs do %v", c.src, c.f, c.args, depth, meaning, trace)
			}
			if len(trace.Shows) > len(meaning.Shows) {
				longer++
			} else if len(trace.Shows) < len(meaning.Shows) {
				shorter++
			}
		}
	}
	if longer < 300 || shorter < 300 {
		t.Errorf("only %d showed more, %d less", longer, shorter)
	}
}
