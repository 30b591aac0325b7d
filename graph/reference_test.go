package graph_test

import (
	"slices"

	"smithy/api"
	"smithy/scalar"
)

// A second way of all that the package tells: slow, and word by word as the chapter says it.

func isAny(t api.Type) bool { return slices.Contains(types, t) }

func inside(i, n int) bool { return !slices.Contains([]bool{i >= 0, i < n}, false) }

// only is an instruction with just these of its fields (by letters: Op, Dst, Bits, Ref, Args).
func only(x api.Ins, letters string) api.Ins {
	y := api.Ins{Kind: x.Kind}
	for _, l := range letters {
		switch l {
		case 'O':
			y.Op = x.Op
		case 'D':
			y.Dst = x.Dst
		case 'B':
			y.Bits = x.Bits
		case 'R':
			y.Ref = x.Ref
		case 'A':
			y.Args = x.Args
		}
	}
	return y
}

// typesOf are the types of variables; none, if one of them is no variable.
func typesOf(g api.Graph, vars ...int) []api.Type {
	l := []api.Type{}
	for _, v := range vars {
		if !inside(v, len(g.Vars)) {
			return nil
		}
		l = append(l, g.Vars[v])
	}
	return l
}

func slowType(p []api.Graph, g api.Graph, x api.Ins) (api.Type, bool) {
	args, dst := typesOf(g, x.Args...), typesOf(g, x.Dst)
	d := api.NoType
	if dst != nil {
		d = dst[0]
	}
	sets, may := true, false
	switch x.Kind {
	case api.InsPhi:
		may = sameIns(x, only(x, "DA")) && args != nil && isAny(d) && !slices.ContainsFunc(args, func(u api.Type) bool { return u != d })
	case api.InsConst:
		may = sameIns(x, only(x, "DB")) && scalar.Right(d, x.Bits)
	case api.InsCopy:
		may = sameIns(x, only(x, "DA")) && isAny(d) && slices.Equal(args, []api.Type{d})
	case api.InsOp:
		may = sameIns(x, only(x, "DOA")) && slowOp(x.Op, d, args)
	case api.InsCast:
		may = sameIns(x, only(x, "DA")) && len(args) == 1 && scalar.Turns(d, args[0])
	case api.InsLoad:
		may = sameIns(x, only(x, "DRA")) && inside(x.Ref, len(g.Arrays)) && isAny(d) && d == g.Arrays[x.Ref].Type && slices.Equal(args, []api.Type{api.I64})
	case api.InsStore:
		sets = false
		may = sameIns(x, only(x, "RA")) && inside(x.Ref, len(g.Arrays)) && isAny(g.Arrays[x.Ref].Type) && slices.Equal(args, []api.Type{api.I64, g.Arrays[x.Ref].Type})
	case api.InsClear:
		sets = false
		may = sameIns(x, only(x, "R")) && inside(x.Ref, len(g.Arrays))
	case api.InsCall:
		may = sameIns(x, only(x, "DRA")) && inside(x.Ref, len(p)) && slowCall(p[x.Ref], d, args)
	case api.InsPrint:
		sets = false
		may = sameIns(x, only(x, "A")) && len(args) == 1
	}
	if !may || !sets {
		return api.NoType, may
	}
	return d, true
}

func slowOp(o api.Op, d api.Type, args []api.Type) bool {
	if len(args) == 0 {
		return false
	}
	told, ok := scalar.Of(o, args[0])
	if !ok || told != d {
		return false
	}
	if o > api.OpGe {
		return len(args) == 1
	}
	return len(args) == 2 && args[0] == args[1]
}

func slowCall(called api.Graph, d api.Type, args []api.Type) bool {
	params := typesOf(called, called.Params...)
	return params != nil && args != nil && slices.Equal(params, args) && !slices.ContainsFunc(args, func(u api.Type) bool { return !isAny(u) }) && isAny(d) && d == called.Result
}

func slowEnd(g api.Graph, e api.Term) bool {
	leads := func(to int) bool { return to > 0 && to < len(g.Blocks) }
	arg := typesOf(g, e.Arg)
	switch e {
	case jump(e.To[0]):
		return leads(e.To[0])
	case branch(e.Arg, e.To[0], e.To[1]):
		return leads(e.To[0]) && leads(e.To[1]) && slices.Equal(arg, []api.Type{api.Bool})
	case back(e.Arg):
		return slices.Equal(arg, []api.Type{g.Result})
	}
	return e == trap(1) || e == trap(2) || e == trap(3)
}

func slowRight(p []api.Graph, g api.Graph) bool {
	if len(g.Blocks) < 1 || !isAny(g.Result) || slices.ContainsFunc(g.Vars, func(u api.Type) bool { return !isAny(u) }) {
		return false
	}
	for _, x := range g.Arrays {
		if !isAny(x.Type) || x.Size < 1 || x.Size > 256 {
			return false
		}
	}
	seen := map[int]int{}
	for _, v := range g.Params {
		seen[v]++
	}
	if len(g.Params) > 8 || len(seen) != len(g.Params) || typesOf(g, g.Params...) == nil {
		return false
	}
	for i, x := range g.Blocks {
		if !slowEnd(g, x.Term) || !slowBlock(p, g, i) {
			return false
		}
	}
	return true
}

func slowBlock(p []api.Graph, g api.Graph, at int) bool {
	set := map[int]int{}
	phis, others := 0, 0
	for _, x := range g.Blocks[at].Ins {
		if _, ok := slowType(p, g, x); !ok {
			return false
		}
		if x.Kind != api.InsPhi {
			others++
			continue
		}
		phis++
		set[x.Dst]++
		if others > 0 || at == 0 || len(x.Args) != len(slowAhead(g, at)) {
			return false
		}
	}
	return len(set) == phis
}

func slowCheck(p []api.Graph) (api.Errno, int) {
	if len(p) > 64 {
		return api.ErrLong, 0
	}
	i := slices.IndexFunc(p, func(g api.Graph) bool { return !slowRight(p, g) })
	if i < 0 {
		return api.OK, 0
	}
	return api.ErrShape, i
}

// edge tells whether an end names a block.
func edge(e api.Term, to int) bool {
	return e.Kind == api.TermJump && e.To[0] == to || e.Kind == api.TermBranch && (e.To[0] == to || e.To[1] == to)
}

func slowAhead(g api.Graph, at int) []int {
	var l []int
	for i, x := range g.Blocks {
		if edge(x.Term, at) {
			l = append(l, i)
		}
	}
	return l
}

// slowOrder walks by calls of its own.
func slowOrder(g api.Graph) []int {
	met := map[int]int{}
	var order []int
	var walk func(at int)
	walk = func(at int) {
		if met[at]++; met[at] > 1 || !inside(at, len(g.Blocks)) {
			return
		}
		switch e := g.Blocks[at].Term; e.Kind {
		case api.TermBranch:
			walk(e.To[0])
			walk(e.To[1])
		case api.TermJump:
			walk(e.To[0])
		}
		order = append(order, at)
	}
	walk(0)
	slices.Reverse(order)
	return order
}

func slowTrim(g api.Graph) api.Graph {
	order := slowOrder(g)
	h := copied(g)
	h.Blocks = nil
	for _, at := range order {
		x := copied(g).Blocks[at]
		if k := x.Term.Kind; k == api.TermJump || k == api.TermBranch {
			for i := range int(k) {
				if now := slices.Index(order, x.Term.To[i]); now >= 0 {
					x.Term.To[i] = now
				}
			}
		}
		h.Blocks = append(h.Blocks, x)
	}
	for i, at := range order {
		was := slowAhead(g, at)
		for j, x := range g.Blocks[at].Ins {
			if x.Kind != api.InsPhi {
				continue
			}
			h.Blocks[i].Ins[j].Args = nil
			for _, from := range slowAhead(h, i) {
				if k := slices.Index(was, order[from]); k < len(x.Args) {
					h.Blocks[i].Ins[j].Args = append(h.Blocks[i].Ins[j].Args, x.Args[k])
				}
			}
		}
	}
	return h
}
