package tableau

import (
	"slices"

	"lariat/api"
	"lariat/cover"
)

// said is what a cover says: next and now have a bit for each part.
type said struct {
	need, ban, next, now uint64
}

// builder makes the nodes of a formula's automaton, as they are found.
type builder struct {
	f       []api.Node
	crowd   crowd
	nodes   []api.ANode
	numbers map[said]int     // by what a cover says, its node
	left    map[int][]int    // of each node that is to be gone on with, what must be true next
	led     map[uint64][]int // by what must be true next, a bit for each part, the nodes behind
}

// begun is a builder that has found no node yet.
func begun(f []api.Node) *builder {
	return &builder{f: f, crowd: crowdOf(f), numbers: map[said]int{}, left: map[int][]int{}, led: map[uint64][]int{}}
}

// lead is the nodes of the covers that make parts true, in order; false, if there are too many.
func (b *builder) lead(parts []int) ([]int, bool) {
	next := set(parts)
	// To make the same true once more may take long, where most of its ways come to nothing.
	if known, is := b.led[next]; is {
		return slices.Clone(known), true
	}
	if b.crowd.has(parts) {
		return nil, false
	}
	covers := cover.Of(b.f, parts)
	if len(covers) > api.MaxAuto {
		return nil, false
	}
	nodes := make([]int, len(covers))
	for i, c := range covers {
		nodes[i] = b.number(c)
	}
	b.led[next] = nodes
	return nodes, len(b.nodes) <= api.MaxAuto
}

// number is the node of the cover c, which is made if it is not there.
func (b *builder) number(c cover.Cover) int {
	says := said{c.Need, c.Ban, set(c.Next), set(c.Now)}
	if n, is := b.numbers[says]; is {
		return n
	}
	n := len(b.nodes)
	b.nodes = append(b.nodes, api.ANode{Need: c.Need, Ban: c.Ban, In: cover.Meets(b.f, c)})
	b.numbers[says], b.left[n] = n, c.Next
	return n
}

// set has a bit for each of parts.
func set(parts []int) uint64 {
	bits := uint64(0)
	for _, part := range parts {
		bits |= 1 << part
	}
	return bits
}
