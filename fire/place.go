package fire

import (
	"slices"

	"lariat/api"
	"lariat/cmd"
	"lariat/layout"
	"lariat/proc"
	"lariat/state"
)

// The ways of a command instance; only one that sends to a channel that may lose has the second one.
const (
	kept = 0
	lost = 1
)

// nothing is the Cmd of a move by no command instance.
const nothing = -1

// place is where a model that may be is: a right state of it.
type place struct {
	api.Layout
	model api.Model
	insts []api.Inst
	refs  []api.Ref
	state []int
	view  api.Env // what expressions speak of there, but for what an instance has of its own
}

// open is the place s of m; false, if m may not be, or s is not right.
func open(m api.Model, s []int) (place, bool) {
	if !state.Right(m, s) {
		return place{}, false
	}
	p := place{Layout: layout.Of(m), model: m, insts: proc.Insts(m), refs: proc.Refs(m)}
	return p.behind(s), true
}

// behind is the place of the same model that is the right state s.
func (p place) behind(s []int) place {
	p.state = s
	p.view = state.Env(p.model, s, -1)
	return p
}

// process is the process of instance inst.
func (p place) process(inst int) api.Proc {
	return p.model.Procs[p.insts[inst].Proc]
}

// command is the command of ref.
func (p place) command(ref int) api.Cmd {
	r := p.refs[ref]
	return p.process(r.Inst).Cmds[r.Cmd]
}

// ways is in how many ways ref may be done, if it is on.
func (p place) ways(ref int) int {
	return cmd.Ways(p.command(ref), p.model.Chans)
}

// has tells whether there is that command instance, and that way of it.
func (p place) has(ref, way int) bool {
	return 0 <= ref && ref < len(p.refs) && 0 <= way && way < p.ways(ref)
}

// channel is the cells of channel n among those of a state.
func (p place) channel(cells []int, n int) []int {
	return cells[p.Chans[n]:][:1+p.model.Chans[n].Cap]
}

// moves are the moves from there, in order.
func (p place) moves() []api.Move {
	var l []api.Move
	for ref := range p.refs {
		for way := range p.ways(ref) {
			if next, is := p.done(ref, way); is {
				l = append(l, api.Move{Cmd: ref, Way: way, To: next})
			}
		}
	}
	if len(l) == 0 {
		l = append(l, api.Move{Cmd: nothing, To: slices.Clone(p.state)})
	}
	return l
}

// done is the state behind ref, done in that way of it; false, if ref is not on.
func (p place) done(ref, way int) ([]int, bool) {
	inst := p.refs[ref].Inst
	c := p.command(ref)
	if p.state[p.Insts[inst]] != c.From {
		return nil, false
	}
	w := p.begin(inst)
	if !w.allows(c.Guard) {
		return nil, false
	}
	for _, a := range c.Acts {
		if !doerOf(a).do(w) {
			return nil, false
		}
	}
	// Acts ask of locations as these were ahead, and of the channel as if nothing were lost: both change behind all acts.
	w.cells[w.own] = c.To
	if way == lost {
		_, to := cmd.Comm(c)
		copy(p.channel(w.cells, to), p.channel(p.state, to))
	}
	return w.cells, true
}
