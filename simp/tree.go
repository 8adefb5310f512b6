package simp

import (
	"slices"

	"lariat/api"
	"lariat/ltl"
)

// none stands for a part that is not there.
const none = -1

// part is a node, with N of an FProp alone, and the numbers of its own parts: a, or a the left one and b.
type part struct {
	node  api.Node
	a, b  int
	small bool // it is sure that it stays, and all its parts
}

// tree is a formula as parts, numbered; those that are out of it by now keep their numbers.
type tree struct {
	parts []part
	root  int
	rules rules
	open  []int // kept for its room alone
}

// pair is two parts' numbers.
type pair struct {
	x, y int
}

// grown is f, which is in negation normal form, as a tree.
func grown(f []api.Node) *tree {
	t := &tree{parts: make([]part, len(f)), root: len(f) - 1}
	t.rules = rules{and: t.and, or: t.or, next: t.next, until: t.until, rel: t.rel}
	begins := ltl.Spans(f)
	for at, n := range f {
		p := leaf(n.Op)
		switch n.Op {
		case api.FProp:
			p.node = n
		case api.FNot, api.FNext:
			p.a = at - 1
		case api.FAnd, api.FOr, api.FUntil, api.FRel:
			p.a, p.b = begins[at-1]-1, at-1
		}
		t.parts[at] = p
	}
	return t
}

// leaf is a part of that operation that has no parts yet.
func leaf(op int) part {
	return part{node: api.Node{Op: op}, a: none, b: none}
}

// round makes each part smaller once, its own parts ahead of it, but those that stay in any case.
func (t *tree) round() {
	for _, at := range slices.Backward(t.opened()) {
		t.lessen(at)
	}
}

// opened is the parts that may not stay, each ahead of its own parts.
func (t *tree) opened() []int {
	l := append(t.open[:0], t.root)
	for i := 0; i < len(l); i++ {
		p := t.parts[l[i]]
		for _, own := range [...]int{p.a, p.b} {
			if !t.small(own) {
				l = append(l, own)
			}
		}
	}
	t.open = l
	return l
}

// lessen puts what the rules leave of the part in its place; where they leave it, it stays for good once its own parts do.
func (t *tree) lessen(at int) {
	p := &t.parts[at]
	if left, fits := t.rules.left(*p); fits {
		*p = left
		return
	}
	p.small = t.small(p.a) && t.small(p.b)
}

// small tells whether a part that is there stays for good.
func (t *tree) small(at int) bool {
	return at == none || t.parts[at].small
}

// is tells whether the part is one of that operation.
func (t *tree) is(at, op int) bool {
	return t.parts[at].node.Op == op
}

// same tells whether two parts have the same nodes, node by node.
func (t *tree) same(x, y int) bool {
	pairs := []pair{{x, y}}
	for len(pairs) > 0 {
		last := len(pairs) - 1
		p, q := t.parts[pairs[last].x], t.parts[pairs[last].y]
		pairs = pairs[:last]
		if p.node != q.node {
			return false
		}
		if p.a != none {
			pairs = append(pairs, pair{p.a, q.a})
		}
		if p.b != none {
			pairs = append(pairs, pair{p.b, q.b})
		}
	}
	return true
}

// list is the tree as a list, written from its end on.
func (t *tree) list() []api.Node {
	var l []api.Node
	ahead := []int{t.root}
	for len(ahead) > 0 {
		last := len(ahead) - 1
		p := t.parts[ahead[last]]
		ahead = ahead[:last]
		l = append(l, p.node)
		for _, own := range [...]int{p.a, p.b} {
			if own != none {
				ahead = append(ahead, own)
			}
		}
	}
	slices.Reverse(l)
	return l
}
