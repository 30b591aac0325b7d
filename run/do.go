package run

import (
	"smithy/api"
	"smithy/scalar"
)

// do does an instruction of the last call; calls and phis are done by those who meet them.
func (r *runner) do(x *api.Ins) {
	switch x.Kind {
	case api.InsConst:
		r.set(x.Dst, x.Bits)
	case api.InsCopy:
		r.set(x.Dst, r.get(x.Args[0]))
	case api.InsOp:
		r.set(x.Dst, r.reckoned(x))
	case api.InsCast:
		word, _ := scalar.Turn(r.typeOf(x.Dst), r.typeOf(x.Args[0]), r.get(x.Args[0]))
		r.set(x.Dst, word)
	case api.InsLoad:
		r.set(x.Dst, r.element(x.Ref, r.get(x.Args[0])))
	case api.InsStore:
		r.put(x.Ref, r.get(x.Args[0]), r.get(x.Args[1]))
	case api.InsClear:
		clear(r.row(x.Ref))
	case api.InsPrint:
		r.trace.Shows = append(r.trace.Shows, api.Show{Type: r.typeOf(x.Args[0]), Bits: r.get(x.Args[0])})
	}
}

func (r *runner) typeOf(v int) api.Type {
	return r.program[r.now().graph].Vars[v]
}

func (r *runner) reckoned(x *api.Ins) uint64 {
	t, first := r.typeOf(x.Args[0]), r.get(x.Args[0])
	if len(x.Args) == 1 {
		word, _ := scalar.One(x.Op, t, first)
		return word
	}
	word, _ := scalar.Two(x.Op, t, first, r.get(x.Args[1]))
	return word
}

// cell is the one of an array.
func (r *runner) cell(array int) int {
	return len(r.program[r.now().graph].Vars) + array
}

func (r *runner) size(array int) int {
	return r.program[r.now().graph].Arrays[array].Size
}

// row is the elements of an array; none, till the call puts one: they are 0.
func (r *runner) row(array int) []uint64 {
	n := r.find(r.cell(array))
	if n == 0 {
		return nil
	}
	return r.rows[r.kept[n-1].word:][:r.size(array)]
}

// element is the one that an index says, 0 where there is none. As a word, an index below 0 is greater than any size.
func (r *runner) element(array int, index uint64) uint64 {
	if row := r.row(array); index < uint64(len(row)) {
		return row[index]
	}
	return 0
}

// put sets an element; where there is none it does nothing.
func (r *runner) put(array int, index, word uint64) {
	size := r.size(array)
	if index >= uint64(size) {
		return
	}
	if r.find(r.cell(array)) == 0 {
		r.set(r.cell(array), uint64(len(r.rows)))
		r.rows = append(r.rows, make([]uint64, size)...)
	}
	r.row(array)[index] = word
}
