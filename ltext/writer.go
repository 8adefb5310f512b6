package ltext

import (
	"strings"

	"lariat/api"
	"lariat/ltl"
)

// writer writes a formula of which all names may be.
type writer struct {
	nodes []api.Node
	names []string
}

// part is the text of the part that ends with the node at that place, where it stands in a place that asks for so much.
func (w writer) part(at, asked int) string {
	o, is := operationOf(w.nodes[at].Op)
	switch {
	case !is:
		return strings.Clone(w.names[w.nodes[at].N])
	case o.binds < asked:
		return opening + w.bare(at, o) + closing
	}
	return w.bare(at, o)
}

// bare is the text, without brackets, of the part that ends there and is made by o.
func (w writer) bare(at int, o operation) string {
	first, second := ltl.Kids(w.nodes, at)
	switch {
	case o.right == 0:
		return o.sign
	case o.op == api.FNot:
		return o.sign + w.part(first, o.right)
	case o.left == 0:
		return o.sign + blank + w.part(first, o.right)
	}
	return w.part(first, o.left) + blank + o.sign + blank + w.part(second, o.right)
}
