package model

import (
	"slices"

	"lariat/api"
	"lariat/decl"
	"lariat/expr"
	"lariat/lex"
	"lariat/proc"
)

// The parts of a model, by the numbers that a Fault has of them.
const (
	scalars = 1 + iota
	variables
	channels
	processes
	propositions
)

// A Sub has the part of a process, so many times, and the place there; that of the locals is 1.
const (
	subs   = 16
	locals = 1
)

// truth is the kind of what a proposition says.
const truth = 1

// thrown is a fault, on its way to the face.
type thrown api.Fault

// place is where something may be wrong.
type place struct {
	part, item, sub int
}

// must throws why, unless that is OK.
func (p place) must(why api.Errno) {
	if why != api.OK {
		panic(thrown{Why: why, Part: p.part, Item: p.item, Sub: p.sub})
	}
}

// refuse throws why, if that is so.
func (p place) refuse(is bool, why api.Errno) {
	if is {
		p.must(why)
	}
}

// checker goes through a model, and throws the first fault that it meets.
type checker struct {
	model api.Model
	scope api.Scope // what all expressions may speak of
	names []string  // those of the row that have been met
}

func newChecker(m api.Model) *checker {
	return &checker{model: m, scope: api.Scope{Scalars: m.Scalars, Vars: m.Vars, Chans: m.Chans, Procs: m.Procs}}
}

func (c *checker) all() {
	m := c.model
	at, why := decl.Scalars(m.Scalars)
	declared(c, scalars, m.Scalars, func(s api.Scalar) string { return s.Name }, at, why)
	at, why = decl.Vars(m.Vars, m.Scalars, api.MaxVars)
	declared(c, variables, m.Vars, func(v api.Var) string { return v.Name }, at, why)
	at, why = decl.Chans(m.Chans, m.Scalars)
	declared(c, channels, m.Chans, func(ch api.Chan) string { return ch.Name }, at, why)
	for i, p := range m.Procs {
		c.process(i, p)
	}
	c.bounds()
	for i, p := range m.Props {
		c.proposition(i, p)
	}
}

// declared goes through the declarations of a part, of which the one at that place may not be by itself.
func declared[T any](c *checker, part int, l []T, name func(T) string, at int, why api.Errno) {
	for i, x := range l {
		here := place{part: part, item: i}
		if i == at {
			here.must(why)
		}
		c.take(here, name(x))
	}
}

// take is how a name becomes one that is taken.
func (c *checker) take(p place, name string) {
	p.refuse(slices.Contains(c.names, name), api.ErrTwice)
	c.names = append(c.names, name)
}

func (c *checker) process(i int, p api.Proc) {
	here := place{part: processes, item: i}
	here.refuse(i == api.MaxProcs, api.ErrMany)
	part, at, why := proc.Check(p, c.scope) // the locals and Self of a scope, which it lacks, play no part
	place{processes, i, subs*part + at}.must(why)
	c.take(here, p.Name)
	for n, v := range p.Vars {
		place{processes, i, subs*locals + n}.refuse(c.holds(v.Name), api.ErrTwice)
	}
}

// holds tells whether a local may not have that name. It is asked when all ahead of the processes have been met.
func (c *checker) holds(name string) bool {
	return slices.Contains(c.names, name) || slices.ContainsFunc(c.model.Procs, func(p api.Proc) bool { return p.Name == name })
}

func (c *checker) bounds() {
	insts, _, cells := Pieces(c.model)
	place{part: processes, item: len(c.model.Procs)}.refuse(insts > api.MaxInsts || cells > api.MaxCells, api.ErrMany)
}

func (c *checker) proposition(i int, p api.Prop) {
	here := place{part: propositions, item: i}
	here.refuse(i == api.MaxProps, api.ErrMany)
	here.refuse(!lex.Name(p.Name), api.ErrName)
	c.take(here, p.Name)
	kind, why := expr.Kind(p.Expr, c.scope)
	here.must(why)
	here.refuse(kind != truth, api.ErrKind)
}
