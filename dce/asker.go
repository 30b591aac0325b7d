package dce

import (
	"smithy/api"
	"smithy/shape"
)

// asker finds which variables of a right graph are needed. It keeps its own row of those that it has still to go through: what asks what asks may be a chain of millions, which Go's stack would not bear.
type asker struct {
	needed   []bool
	newest   []int     // for each variable the number of the setting that was laid last; 0 is none
	settings []setting // those that ask something: their numbers are from 1 on
	waiting  []int     // variables that are needed, and whose settings were not gone through yet
}

// setting is an instruction that does nothing but set a variable.
type setting struct {
	args  []int
	older int // the number of the same variable's setting that was laid ahead; 0 is none
}

func needed(g api.Graph) []bool {
	a := &asker{needed: make([]bool, len(g.Vars)), newest: make([]int, len(g.Vars))}
	for _, b := range g.Blocks {
		for _, x := range b.Ins {
			a.lay(x)
		}
		if shape.Asks(b.Term) {
			a.ask(b.Term.Arg)
		}
	}
	a.settle()
	return a.needed
}

// lay puts an instruction by its Dst, or, if it stays anyhow, asks what it asks.
func (a *asker) lay(x api.Ins) {
	switch {
	case acts(x):
		a.ask(x.Args...)
	case len(x.Args) > 0:
		a.settings = append(a.settings, setting{args: x.Args, older: a.newest[x.Dst]})
		a.newest[x.Dst] = len(a.settings)
	}
}

// ask is told of variables that are asked for; each waits once at most.
func (a *asker) ask(vars ...int) {
	for _, v := range vars {
		if !a.needed[v] {
			a.needed[v] = true
			a.waiting = append(a.waiting, v)
		}
	}
}

// settle goes on till nobody waits.
func (a *asker) settle() {
	for len(a.waiting) > 0 {
		last := len(a.waiting) - 1
		v := a.waiting[last]
		a.waiting = a.waiting[:last]
		for n := a.newest[v]; n > 0; n = a.settings[n-1].older {
			a.ask(a.settings[n-1].args...)
		}
	}
}
