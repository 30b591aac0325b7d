package mean

import (
	"smithy/api"
	"smithy/scalar"
)

// second is which kid comes behind the first operand of && or ||: that one stays as the answer, unless it leaves it to the second one.
func (r *runner) second(n *api.Node) int {
	first := r.take()
	if first == 1 == (n.Kind == api.NodeBoth) {
		return 1
	}
	r.put(first)
	return len(n.Kids)
}

// reckon puts the word of an expression whose operands were put; a call puts it as it ends.
func (r *runner) reckon(i int) {
	switch n := &r.nodes[i]; n.Kind {
	case api.NodeItem:
		r.put(*r.element(i, r.take()))
	case api.NodeCall:
		from := len(r.words) - len(n.Kids)
		args := r.words[from:]
		r.words = r.words[:from]
		r.beginCall(r.info.Means[i], args)
	case api.NodeCast:
		r.put(turned(n.Type, r.info.Types[n.Kids[0]], r.take()))
	case api.NodeUnary:
		word, _ := scalar.One(n.Op, r.info.Types[n.Kids[0]], r.take())
		r.put(word)
	case api.NodeBinary:
		b, a := r.take(), r.take()
		r.put(joined(n.Op, r.info.Types[n.Kids[0]], a, b))
	}
}

func turned(to, from api.Type, w uint64) uint64 {
	if !scalar.Fits(to, from, w) {
		stopBy(api.TrapRange)
	}
	word, _ := scalar.Turn(to, from, w)
	return word
}

func joined(op api.Op, t api.Type, a, b uint64) uint64 {
	if scalar.Stops(op, t, b) {
		stopBy(api.TrapZero)
	}
	word, _ := scalar.Two(op, t, a, b)
	return word
}
