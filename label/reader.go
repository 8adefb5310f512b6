package label

import "lariat/api"

// places is how many numbers each process has in the N of XAt: one for each location that it may have there.
const places = 16

// reader knows which cells of a model that may be its expressions read.
type reader struct {
	api.Layout
	model api.Model
	insts []api.Inst
}

// read tells mark each cell that n, a node of a proposition, reads.
func (r reader) read(n api.Node, mark func(cell int)) {
	switch n.Op {
	case api.XVar:
		mark(r.Vars[n.N])
	case api.XItem:
		r.readItem(n.N, mark)
	case api.XLen:
		mark(r.Chans[n.N])
	case api.XAt:
		r.readAt(n.N/places, mark)
	}
}

// readItem tells mark all cells of that variable: which of them it is hangs on the element, so that none may be left out.
func (r reader) readItem(variable int, mark func(cell int)) {
	over := r.model.Scalars[r.model.Vars[variable].Over-1]
	for at := range over.Size {
		mark(r.Vars[variable] + at)
	}
}

// readAt tells mark where that process's instances have their locations.
func (r reader) readAt(process int, mark func(cell int)) {
	for i, inst := range r.insts {
		if inst.Proc == process {
			mark(r.Insts[i])
		}
	}
}
