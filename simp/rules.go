package simp

import "lariat/api"

// rules tell what is left of a part, each those of one operation, of its own parts a and b (FNext has a alone), which are made smaller already; false, if none fits.
type rules struct {
	and, or, next, until, rel func(a, b int) (part, bool)
}

// joint is FAnd or FOr: beside the constant takes nothing else matters to it, beside the constant leaves all else does; other is the other one of the two.
type joint struct {
	op, takes, leaves, other int
}

// left is what is left of p; false, if p stays.
func (r rules) left(p part) (part, bool) {
	switch p.node.Op {
	case api.FAnd:
		return r.and(p.a, p.b)
	case api.FOr:
		return r.or(p.a, p.b)
	case api.FNext:
		return r.next(p.a, p.b)
	case api.FUntil:
		return r.until(p.a, p.b)
	case api.FRel:
		return r.rel(p.a, p.b)
	}
	return part{}, false
}

func (t *tree) and(a, b int) (part, bool) {
	return t.joined(joint{api.FAnd, api.FFalse, api.FTrue, api.FOr}, a, b)
}

func (t *tree) or(a, b int) (part, bool) {
	return t.joined(joint{api.FOr, api.FTrue, api.FFalse, api.FAnd}, a, b)
}

func (t *tree) next(a, _ int) (part, bool) {
	return t.parts[a], t.constant(a)
}

func (t *tree) until(a, b int) (part, bool) {
	return t.lasting(api.FUntil, api.FFalse, a, b)
}

func (t *tree) rel(a, b int) (part, bool) {
	return t.lasting(api.FRel, api.FTrue, a, b)
}

// joined is what is left of a and b with that joint; false, if they stay.
func (t *tree) joined(j joint, a, b int) (part, bool) {
	if t.is(a, j.takes) || t.is(b, j.takes) {
		goto constant
	}
	if t.is(a, j.leaves) {
		goto right
	}
	if t.is(b, j.leaves) || t.same(a, b) {
		goto left
	}
	if t.denies(a, b) || t.denies(b, a) {
		goto constant
	}
	if t.has(j.other, b, a) {
		goto left
	}
	if t.has(j.other, a, b) {
		goto right
	}
	if t.is(a, api.FNext) && t.is(b, api.FNext) {
		return t.later(j.op, a, b), true
	}
	return part{}, false
constant:
	return leaf(j.takes), true
left:
	return t.parts[a], true
right:
	return t.parts[b], true
}

// lasting is what is left of a and b with FUntil or FRel, for which a is of no use where it is that constant: b, or they stay.
func (t *tree) lasting(op, useless, a, b int) (part, bool) {
	fits := t.constant(b) || t.is(a, useless) || t.same(a, b) || t.is(b, op) && t.same(t.parts[b].a, a)
	return t.parts[b], fits
}

// constant tells whether the part is FTrue or FFalse.
func (t *tree) constant(at int) bool {
	return t.is(at, api.FTrue) || t.is(at, api.FFalse)
}

// denies tells whether x says that y is not so; where it does, both are literals, as FNot stands behind them alone.
func (t *tree) denies(x, y int) bool {
	return t.is(x, api.FNot) && t.same(t.parts[x].a, y)
}

// has tells whether x is of that operation, which takes two parts, and one of them the same as y.
func (t *tree) has(op, x, y int) bool {
	return t.is(x, op) && (t.same(t.parts[x].a, y) || t.same(t.parts[x].b, y))
}

// later is FNext of what a and b, both FNext, have as parts, with that joint; that stands in b's place, which is free.
func (t *tree) later(op, a, b int) part {
	under := leaf(op)
	under.a, under.b = t.parts[a].a, t.parts[b].a
	t.parts[b] = under
	p := leaf(api.FNext)
	p.a = b
	return p
}
