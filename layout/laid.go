package layout

import (
	"slices"

	"lariat/api"
	"lariat/decl"
	"lariat/model"
	"lariat/proc"
)

// values are what a cell may have: those of a kind, from lo to hi.
type values struct {
	kind, lo, hi int
}

// laid is where the things of m are, and the kind of each cell; nothing, if m may not be.
func laid(m api.Model) (l api.Layout, kinds []int) {
	if model.Check(m) != (api.Fault{}) {
		return api.Layout{}, nil
	}
	add := func(cells ...values) int {
		first := l.Cells
		for _, v := range cells {
			l.Lo = append(l.Lo, v.lo)
			l.Hi = append(l.Hi, v.hi)
			kinds = append(kinds, v.kind)
		}
		l.Cells += len(cells)
		return first
	}
	for _, v := range m.Vars {
		l.Vars = append(l.Vars, add(slices.Repeat([]values{ofVar(v, m.Scalars)}, decl.Cells(v, m.Scalars))...))
	}
	for _, c := range m.Chans {
		l.Chans = append(l.Chans, add(ofChan(c, m.Scalars)...))
	}
	for _, i := range proc.Insts(m) {
		l.Insts = append(l.Insts, add(ofInst(m.Procs[i.Proc], m.Scalars)...))
	}
	return l, kinds
}

// ofVar is what each cell of v may have.
func ofVar(v api.Var, s []api.Scalar) values {
	lo, hi := decl.Bounds(v, s)
	return values{kind(v.Scalar), lo, hi}
}

// ofChan is what each cell of c may have. One that no value is in has 0, which need not be among the values.
func ofChan(c api.Chan, s []api.Scalar) []values {
	held := ofVar(api.Var{Scalar: c.Scalar, Lo: min(0, c.Lo), Hi: max(0, c.Hi)}, s)
	return append([]values{{hi: c.Cap}}, slices.Repeat([]values{held}, c.Cap)...)
}

// ofInst is what each cell of an instance of p may have.
func ofInst(p api.Proc, s []api.Scalar) []values {
	cells := []values{{hi: p.Locs - 1}}
	for _, v := range p.Vars {
		cells = append(cells, ofVar(v, s))
	}
	return cells
}

// kind is the kind of numbers, if scalar is 0, else that of the elements of that scalar, counted from 1 on.
func kind(scalar int) int {
	if scalar == 0 {
		return 0
	}
	return 1 + scalar
}
