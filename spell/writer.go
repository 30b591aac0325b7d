package spell

import (
	"strconv"
	"strings"

	"smithy/api"
)

var typeWords = [...]string{
	api.Bool: "bool",
	api.U8:   "u8",
	api.I32:  "i32",
	api.I64:  "i64",
	api.F64:  "f64",
}

// writer writes nodes of a right tree: so it asks nothing of them again.
type writer struct {
	strings.Builder
	nodes []api.Node
	open  int // blocks, as far as their braces are written
}

func (w *writer) put(texts ...string) {
	for _, text := range texts {
		w.WriteString(text)
	}
}

// begin puts the tabs that a line begins with.
func (w *writer) begin() {
	w.put(strings.Repeat("\t", w.open))
}

func (w *writer) function(f api.Func) {
	w.put("func ", f.Name, "(")
	for i, p := range f.Params {
		if i > 0 {
			w.put(", ")
		}
		w.put(p.Name, " ", typeWords[p.Type])
	}
	w.put(") ", typeWords[f.Result], " ")
	w.block(f.Body)
	w.put("\n")
}

// block begins in a line that stands already, and leaves the line of its last brace to go on.
func (w *writer) block(at int) {
	w.put("{\n")
	w.open++
	for _, kid := range w.nodes[at].Kids {
		w.begin()
		w.statement(kid)
		w.put("\n")
	}
	w.open--
	w.begin()
	w.put("}")
}

func (w *writer) statement(at int) {
	n := w.nodes[at]
	switch n.Kind {
	case api.NodeIf:
		w.choice(n)
	case api.NodeWhile:
		w.guarded("while ", n)
	default:
		w.plain(n)
		w.put(";")
	}
}

// guarded is a condition and the block that hangs on it.
func (w *writer) guarded(word string, n api.Node) {
	w.put(word)
	w.expr(n.Kids[0])
	w.put(" ")
	w.block(n.Kids[1])
}

func (w *writer) choice(n api.Node) {
	w.guarded("if ", n)
	if len(n.Kids) < 3 {
		return
	}
	w.put(" else ")
	other := w.nodes[n.Kids[2]]
	if len(other.Kids) == 1 && w.nodes[other.Kids[0]].Kind == api.NodeIf {
		w.statement(other.Kids[0])
		return
	}
	w.block(n.Kids[2])
}

// plain is a statement without blocks, up to its semicolon.
func (w *writer) plain(n api.Node) {
	switch n.Kind {
	case api.NodeVar:
		w.put("var ", n.Name, " ", typeWords[n.Type], " = ")
	case api.NodeArray:
		w.put("var ", n.Name, " [", strconv.Itoa(n.Size), "]", typeWords[n.Type])
	case api.NodeSet:
		w.put(n.Name, " = ")
	case api.NodePut:
		w.item(n)
		w.put(" = ")
		w.expr(n.Kids[1])
		return
	case api.NodeBreak:
		w.put("break")
	case api.NodeNext:
		w.put("continue")
	case api.NodeReturn:
		w.put("return ")
	case api.NodePrint:
		w.put("print ")
	}
	// All others have one expression at most, behind what is put.
	for _, kid := range n.Kids {
		w.expr(kid)
	}
}
