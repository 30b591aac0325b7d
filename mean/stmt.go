package mean

import "smithy/api"

// ending is how a statement ends.
type ending int

const (
	goesOn    ending = iota // what stands behind it comes next
	breaksOff               // what stands behind its loop does
	goesRound               // its loop's condition does
	tells                   // its call ends
)

// do does what a statement does behind its kids, and tells how it ends.
func (r *runner) do(i int) ending {
	switch n := &r.nodes[i]; n.Kind {
	case api.NodeVar, api.NodeSet:
		r.local(i)[0] = r.take()
	case api.NodeArray:
		clear(r.local(i))
	case api.NodePut:
		word, index := r.take(), r.take()
		*r.element(i, index) = word
	case api.NodePrint:
		r.trace.Shows = append(r.trace.Shows, api.Show{Type: r.info.Types[n.Kids[0]], Bits: r.take()})
	case api.NodeDo:
		r.take()
	case api.NodeBreak:
		return breaksOff
	case api.NodeNext:
		return goesRound
	case api.NodeReturn:
		return tells
	}
	return goesOn
}

// leave goes out of the innermost node, which is a statement, and as far as its end leads.
func (r *runner) leave(how ending) {
	switch how {
	case goesOn:
		r.drop()
	case breaksOff:
		r.dropToLoop()
		r.drop()
	case goesRound:
		r.dropToLoop()
	case tells:
		r.endCall()
	}
}

func (r *runner) dropToLoop() {
	for r.nodes[r.begun[len(r.begun)-1].node].Kind != api.NodeWhile {
		r.drop()
	}
}

// next is which kid of a node comes next; it is none of them, if the node ends.
func (r *runner) next(b *begun) int {
	kid := b.next
	b.next++
	n := &r.nodes[b.node]
	switch n.Kind {
	case api.NodeBoth, api.NodeEither:
		if kid == 1 {
			return r.second(n)
		}
	case api.NodeIf:
		if kid == 1 {
			b.next = len(n.Kids)
			return r.branch()
		}
	case api.NodeWhile:
		if kid == 0 {
			r.step()
			return kid
		}
		b.next = 0
		return r.branch()
	}
	return kid
}

// branch is which kid comes behind a condition: where that is false there may be none.
func (r *runner) branch() int {
	if r.take() == 1 {
		return 1
	}
	return 2
}
