package state

import (
	"slices"

	"lariat/api"
	"lariat/decl"
	"lariat/layout"
	"lariat/model"
	"lariat/num"
	"lariat/proc"
)

// reader reads a state by the layout of its model.
type reader struct {
	api.Layout
	model api.Model
	state []int
}

// open is a reader of no state yet; false, if m may not be.
func open(m api.Model) (reader, bool) {
	r := reader{Layout: layout.Of(m), model: m}
	// A layout that has cells is of a model that may be. Check goes through all of a model: where that tells enough, it is not asked again for each state.
	return r, r.Cells > 0 || model.Check(m) == (api.Fault{})
}

// read is a reader of s, or why it can't be read.
func read(m api.Model, s []int) (reader, api.Errno) {
	r, is := open(m)
	if !is {
		return reader{}, api.ErrArg
	}
	r.state = s
	if !r.right() {
		return reader{}, api.ErrForm
	}
	return r, api.OK
}

// right tells whether all cells have what they may.
func (r reader) right() bool {
	if len(r.state) != r.Cells {
		return false
	}
	for i, x := range r.state {
		if !num.Fits(x, r.Lo[i], r.Hi[i]) {
			return false
		}
	}
	for i := range r.Chans {
		if !r.rightChan(i) {
			return false
		}
	}
	return true
}

// rightChan tells whether channel i, whose cells are within their bounds, has values within its own, and 0 behind them.
func (r reader) rightChan(i int) bool {
	c := r.model.Chans[i]
	lo, hi := decl.Bounds(api.Var{Scalar: c.Scalar, Lo: c.Lo, Hi: c.Hi}, r.model.Scalars)
	first := r.Chans[i]
	held := r.state[first]
	for at, x := range r.state[first+1:][:c.Cap] {
		if at < held && !num.Fits(x, lo, hi) || at >= held && x != 0 {
			return false
		}
	}
	return true
}

// variable is the cells of variable i.
func (r reader) variable(i int) []int {
	return r.state[r.Vars[i]:][:decl.Cells(r.model.Vars[i], r.model.Scalars)]
}

// locals are the cells of those of instance i, which is one of p.
func (r reader) locals(i int, p api.Proc) []int {
	return r.state[r.Insts[i]+1:][:len(p.Vars)]
}

// begin puts into all cells what they have at first, where that is not 0.
func (r reader) begin() {
	for i, v := range r.model.Vars {
		own := r.variable(i)
		for at := range own {
			own[at] = v.Init
		}
	}
	for i, inst := range proc.Insts(r.model) {
		p := r.model.Procs[inst.Proc]
		own := r.locals(i, p)
		for at, v := range p.Vars {
			own[at] = v.Init
		}
	}
}

// vars are, of each variable, its cells.
func (r reader) vars() [][]int {
	var l [][]int
	for i := range r.Vars {
		l = append(l, slices.Clone(r.variable(i)))
	}
	return l
}

// lens are how many values each channel has.
func (r reader) lens() []int {
	var l []int
	for _, first := range r.Chans {
		l = append(l, r.state[first])
	}
	return l
}

// at is, of each process, how many of its instances are at each of its locations.
func (r reader) at(insts []api.Inst) [][]int {
	var l [][]int
	for _, p := range r.model.Procs {
		l = append(l, make([]int, p.Locs))
	}
	for i, inst := range insts {
		l[inst.Proc][r.state[r.Insts[i]]]++
	}
	return l
}
