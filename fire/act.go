package fire

import (
	"slices"

	"lariat/api"
	"lariat/chans"
	"lariat/expr"
)

// work is what the acts of an instance have made of a place so far.
type work struct {
	place
	own   int   // the first cell of the instance
	cells []int // the state that has come of it
	env   api.Env
}

// begin is the work of instance inst, of which nothing is done yet.
func (p place) begin(inst int) *work {
	w := &work{place: p, own: p.Insts[inst], cells: slices.Clone(p.state), env: p.view}
	// Variables and locals are pieces of the cells, so that expressions speak of what the acts made of these.
	w.env.Vars = make([][]int, len(p.view.Vars))
	for i, v := range p.view.Vars {
		w.env.Vars[i] = w.cells[p.Vars[i]:][:len(v)]
	}
	w.env.Locals = w.cells[w.local(0):][:len(p.process(inst).Vars)]
	w.env.Lens = slices.Clone(p.view.Lens)
	w.env.Self = p.insts[inst].Elem
	return w
}

// local is the cell of local n.
func (w *work) local(n int) int {
	return w.own + 1 + n
}

// value is the value of e now; false, if it can't be had.
func (w *work) value(e []api.Node) (int, bool) {
	x, why := expr.Eval(e, w.env)
	return x, why == api.OK
}

// allows tells whether a guard is true; one of no nodes is.
func (w *work) allows(guard []api.Node) bool {
	if len(guard) == 0 {
		return true
	}
	x, is := w.value(guard)
	return is && x != 0
}

// set gives the cell the value x; false, if its bounds don't hold that.
func (w *work) set(cell, x int) bool {
	if x < w.Lo[cell] || x > w.Hi[cell] {
		return false
	}
	w.cells[cell] = x
	return true
}

// fill gives channel n those cells.
func (w *work) fill(n int, cells []int) {
	copy(w.channel(w.cells, n), cells)
	w.env.Lens[n] = chans.Len(cells)
}

// doer does an act; false, if it can't be done, whatever has come of the work then.
type doer interface {
	do(w *work) bool
}

// The acts, by what they do.
type (
	setVar   api.Act
	setItem  api.Act
	setLocal api.Act
	send     api.Act
	receive  api.Act
)

// doerOf does a, which is of a model that may be, so that it has one of these Kinds.
func doerOf(a api.Act) doer {
	switch a.Kind {
	case api.ActSet:
		return setVar(a)
	case api.ActItem:
		return setItem(a)
	case api.ActLocal:
		return setLocal(a)
	case api.ActSend:
		return send(a)
	}
	return receive(a)
}

func (a setVar) do(w *work) bool {
	x, is := w.value(a.Value)
	return is && w.set(w.Vars[a.To], x)
}

func (a setItem) do(w *work) bool {
	elem, is := w.value(a.Index)
	if !is || elem < 1 || elem > len(w.env.Vars[a.To]) {
		return false
	}
	x, is := w.value(a.Value)
	return is && w.set(w.Vars[a.To]+elem-1, x)
}

func (a setLocal) do(w *work) bool {
	x, is := w.value(a.Value)
	return is && w.set(w.local(a.To), x)
}

func (a send) do(w *work) bool {
	x, is := w.value(a.Value)
	if !is {
		return false
	}
	cells, is := chans.Put(w.channel(w.cells, a.To), x)
	// The values ahead of x are within the channel's bounds, so that these are asked of x alone.
	if !is || !chans.Right(cells, w.model.Chans[a.To], w.model.Scalars) {
		return false
	}
	w.fill(a.To, cells)
	return true
}

func (a receive) do(w *work) bool {
	cells, x, is := chans.Take(w.channel(w.cells, a.To))
	if !is {
		return false
	}
	w.fill(a.To, cells)
	return w.set(w.local(a.Local), x)
}
