package cover

import (
	"math/bits"

	"lariat/api"
)

// way is a way to make parts true, as far as it has come: next and now have a bit for each part.
type way struct {
	need, ban, next, now uint64
}

// has tells whether the bit of that part is set.
func has(set uint64, part int) bool {
	return set>>part&1 == 1
}

// cover is what the way comes to.
func (w way) cover() Cover {
	return Cover{Need: w.need, Ban: w.ban, Next: rising(w.next), Now: rising(w.now)}
}

// rising is the numbers whose bits are set.
func rising(set uint64) []int {
	numbers := make([]int, 0, bits.OnesCount64(set))
	for ; set != 0; set &= set - 1 {
		numbers = append(numbers, bits.TrailingZeros64(set))
	}
	return numbers
}

// pending is parts that are to be made true, the first one ahead of the rest; nil: there is none. Ways share what is the same for all of them.
type pending struct {
	part int
	rest *pending
}

// named is those parts in the order in which they are named, each once.
func named(parts []int) *pending {
	var seen uint64
	var order []int
	for _, part := range parts {
		if !has(seen, part) {
			seen |= 1 << part
			order = append(order, part)
		}
	}
	var all *pending
	for i := range order {
		all = &pending{order[len(order)-1-i], all}
	}
	return all
}

// open is the parts from the first one on that w has not made true; nil, if there is none.
func (p *pending) open(w way) *pending {
	for p != nil && has(w.now, p.part) {
		p = p.rest
	}
	return p
}

// maker makes parts of a formula true.
type maker struct {
	f      []api.Node
	begins []int
}

// take makes the first of all true on the way w, by its node, and hands on each way that this leads to, with what is then to be made true.
func (m maker) take(w way, all *pending, on func(w way, ahead *pending)) {
	at, rest := all.part, all.rest
	w.now |= 1 << at
	switch m.f[at].Op {
	case api.FTrue:
		on(w, rest)
	case api.FProp:
		m.read(w, at, false, rest, on)
	case api.FNot:
		m.read(w, at-1, true, rest, on)
	case api.FAnd:
		on(w, &pending{m.left(at), &pending{at - 1, rest}})
	case api.FOr:
		on(w, &pending{m.left(at), rest})
		on(w, &pending{at - 1, rest})
	case api.FNext:
		w.next |= 1 << (at - 1)
		on(w, rest)
	case api.FUntil:
		on(w, &pending{at - 1, rest})
		w.next |= 1 << at
		on(w, &pending{m.left(at), rest})
	case api.FRel:
		on(w, &pending{m.left(at), &pending{at - 1, rest}})
		w.next |= 1 << at
		on(w, &pending{at - 1, rest})
	}
}

// read hands on the way on which the proposition at that place is set, or banned; there is none, if w asks for the other.
func (m maker) read(w way, at int, banned bool, rest *pending, on func(w way, ahead *pending)) {
	set := uint64(1) << m.f[at].N
	if banned {
		w.ban |= set
	} else {
		w.need |= set
	}
	if w.need&w.ban == 0 {
		on(w, rest)
	}
}

// left is the left one of the two parts of the node at that place.
func (m maker) left(at int) int {
	return m.begins[at-1] - 1
}
