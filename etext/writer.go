package etext

import (
	"lariat/api"
	"lariat/num"
)

// writer writes an expression that has a kind in its scope. The part ahead of node at ends at at - 1, and the one ahead of that where that one begins.
type writer struct {
	nodes  []api.Node
	begins []int
	scope  scope
}

// part is the text of the part that ends with the node at that place.
func (w writer) part(at int) string {
	n := w.nodes[at]
	name, _ := w.scope.name(n)
	switch n.Op {
	case api.XNum:
		return num.Decimal(n.N)
	case api.XVar, api.XLocal:
		return name
	case api.XItem:
		return name + "[" + w.part(at-1) + "]"
	case api.XSelf:
		return selfWord
	case api.XLen:
		return lenWord + bracketed(name)
	case api.XAt:
		return atWord + bracketed(name+", "+num.Decimal(n.N%places))
	case api.XNone:
		return noneWord + bracketed(name)
	case api.XNot:
		return notSign + w.bound(at-1, upon)
	case api.XNeg:
		return negSign + w.negated(at-1)
	}
	return w.pair(at)
}

// bound is the text of the part that ends there, in brackets, if it binds less than least. No more than upon is asked for, and whatever is no pair binds at least so.
func (w writer) bound(at, least int) string {
	if p, is := pairOf(w.nodes[at].Op); is && p.strength < least {
		return bracketed(w.part(at))
	}
	return w.part(at)
}

// negated is the text of the part that ends there, as it stands behind a minus. A number would be read as one below 0 there.
func (w writer) negated(at int) string {
	if w.nodes[at].Op == api.XNum {
		return bracketed(w.part(at))
	}
	return w.bound(at, upon)
}

func bracketed(text string) string {
	return "(" + text + ")"
}

// pair is the text of two parts and the sign between them. A row is read from the left, so that the right part must bind more; of comparisons none stands in a row.
func (w writer) pair(at int) string {
	p, _ := pairOf(w.nodes[at].Op)
	least := p.strength
	if least == comparing {
		least++
	}
	return w.bound(w.begins[at-1]-1, least) + " " + p.sign + " " + w.bound(at-1, p.strength+1)
}

// pairOf is the operation upon two parts that op is; false, if it is none.
func pairOf(op int) (pair, bool) {
	for _, p := range pairs() {
		if p.op == op {
			return p, true
		}
	}
	return pair{}, false
}
