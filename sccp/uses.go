package sccp

import "smithy/api"

// use is where something hangs on a variable: the argument arg of an instruction of a block, or the block's end, whose place is behind all of them.
type use struct {
	block, ins, arg int
}

// usesOf is for each variable of a graph what hangs on it. They are counted first, as phis may have very many arguments.
func usesOf(g api.Graph) [][]use {
	counts := make([]int, len(g.Vars))
	eachUse(g, func(v int, _ use) { counts[v]++ })
	uses := make([][]use, len(g.Vars))
	for v, n := range counts {
		uses[v] = make([]use, 0, n)
	}
	eachUse(g, func(v int, u use) { uses[v] = append(uses[v], u) })
	return uses
}

func eachUse(g api.Graph, do func(v int, u use)) {
	for i, b := range g.Blocks {
		for j, x := range b.Ins {
			if !hangs(x) {
				continue
			}
			for k, v := range x.Args {
				do(v, use{i, j, k})
			}
		}
		if b.Term.Kind == api.TermBranch {
			do(b.Term.Arg, use{block: i, ins: len(b.Ins)})
		}
	}
}

// hangs tells whether what an instruction makes hangs on its arguments.
func hangs(x api.Ins) bool {
	switch x.Kind {
	case api.InsPhi, api.InsCopy, api.InsOp, api.InsCast:
		return true
	}
	return false
}
