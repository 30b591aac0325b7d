package lower

import (
	"strings"

	"smithy/api"
	"smithy/graph"
)

// maker makes the graph of a function.
type maker struct {
	nodes  []api.Node
	info   api.Info
	graph  api.Graph
	at     int                // the block that is filled
	vars   map[int]int        // variables of locals, by their numbers
	arrays map[int]int        // arrays of locals, by their numbers
	named  int                // how many variables are locals; those behind are spare ones
	free   [api.F64 + 1][]int // spare variables that hold nothing, by their types
	traps  map[api.Trap]int   // blocks that end in a trap
	loop
}

// loop is where break and continue lead: those of the innermost while.
type loop struct {
	behind, head int
}

func lowered(t api.Tree, info api.Info, f int) api.Graph {
	function := t.Funcs[f]
	m := &maker{nodes: t.Nodes, info: info, vars: map[int]int{}, arrays: map[int]int{}, traps: map[api.Trap]int{}}
	// A copy, so that what is told does not keep the tree's texts.
	m.graph.Name, m.graph.Result = strings.Clone(function.Name), function.Result
	m.place(info.Locals[f], len(function.Params))
	m.at = m.newBlock()
	m.block(function.Body)
	// Behind its last statement a function tells 0.
	m.tell(m.constant(function.Result, 0))
	// What stands behind a return, a break or a continue is never reached.
	return graph.Trim(m.graph)
}

// place gives each local a variable, or an array; the first ones are parameters.
func (m *maker) place(locals []api.Local, params int) {
	for number, l := range locals {
		if l.Size > 0 {
			m.arrays[number] = len(m.graph.Arrays)
			m.graph.Arrays = append(m.graph.Arrays, api.Array{Type: l.Type, Size: l.Size})
			continue
		}
		m.vars[number] = m.newVar(l.Type)
		if number < params {
			m.graph.Params = append(m.graph.Params, m.vars[number])
		}
	}
	m.named = len(m.graph.Vars)
}

// Variables.

func (m *maker) newVar(t api.Type) int {
	m.graph.Vars = append(m.graph.Vars, t)
	return len(m.graph.Vars) - 1
}

// take is a spare variable of a type. One that was given back is taken ahead of a new one, so that no function has many, however long it is.
func (m *maker) take(t api.Type) int {
	last := len(m.free[t]) - 1
	if last < 0 {
		return m.newVar(t)
	}
	v := m.free[t][last]
	m.free[t] = m.free[t][:last]
	return v
}

// giveBack ends the use of variables: those that are locals stay what they are.
func (m *maker) giveBack(vars ...int) {
	for _, v := range vars {
		if m.spare(v) {
			t := m.graph.Vars[v]
			m.free[t] = append(m.free[t], v)
		}
	}
}

func (m *maker) spare(v int) bool { return v >= m.named }

// Blocks.

func (m *maker) newBlock() int {
	m.graph.Blocks = append(m.graph.Blocks, api.Block{})
	return len(m.graph.Blocks) - 1
}

// put adds an instruction to the block that is filled.
func (m *maker) put(x api.Ins, args ...int) {
	x.Args = args
	b := &m.graph.Blocks[m.at]
	b.Ins = append(b.Ins, x)
}

// end ends the block that is filled, and goes on with another one.
func (m *maker) end(t api.Term, next int) {
	m.graph.Blocks[m.at].Term = t
	m.at = next
}

func (m *maker) jump(to, next int) {
	m.end(api.Term{Kind: api.TermJump, To: [2]int{to, 0}}, next)
}

// branch goes to one block, if a variable is true, else to the other one.
func (m *maker) branch(v, to, other, next int) {
	m.end(api.Term{Kind: api.TermBranch, Arg: v, To: [2]int{to, other}}, next)
}

// tell ends the call. What stands behind is filled into a block that nothing leads to.
func (m *maker) tell(v int) {
	m.giveBack(v)
	m.end(api.Term{Kind: api.TermReturn, Arg: v}, m.newBlock())
}
