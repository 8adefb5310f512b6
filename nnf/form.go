package nnf

import (
	"slices"

	"lariat/api"
	"lariat/ltl"
)

// forms has of each operation but FProp and FNot what its positive and its negative form end with, and the constant that the positive one begins with, if there is one.
var forms = [...]struct{ positive, negative, first int }{
	api.FTrue:  {api.FTrue, api.FFalse, 0},
	api.FFalse: {api.FFalse, api.FTrue, 0},
	api.FAnd:   {api.FAnd, api.FOr, 0},
	api.FOr:    {api.FOr, api.FAnd, 0},
	api.FImp:   {api.FOr, api.FAnd, 0},
	api.FNext:  {api.FNext, api.FNext, 0},
	api.FUntil: {api.FUntil, api.FRel, 0},
	api.FRel:   {api.FRel, api.FUntil, 0},
	api.FFin:   {api.FUntil, api.FRel, api.FTrue},
	api.FGlob:  {api.FRel, api.FUntil, api.FFalse},
}

// writer writes a form from its end on, as then each part comes behind the one that asks for its form.
type writer struct {
	f        []api.Node
	begins   []int
	negative []bool     // of each node: is the negative form of the part that ends there asked?
	waiting  []constant // those that are not written yet, the next one last
	written  []api.Node // the last node first
}

// constant is one that the form of a part begins with, and where that part begins.
type constant struct {
	node  api.Node
	begin int
}

// form is the negative form of f, or the positive one; nothing, if f is no formula.
func form(f []api.Node, negative bool) []api.Node {
	w := writer{f: f, begins: ltl.Spans(f), negative: make([]bool, len(f))}
	if len(w.begins) == 0 {
		return nil
	}
	w.negative[len(f)-1] = negative
	for at := range slices.Backward(f) {
		w.write(at)
		w.keep(at)
		w.lead(at)
	}
	slices.Reverse(w.written)
	return w.written
}

// write writes what the form of the part at that place ends with, and asks for the forms of its own parts. One of two parts, when the left one is asked, goes on as one of one part, and that, when it is asked, as one of none.
func (w *writer) write(at int) {
	n, negative := w.f[at], w.negative[at]
	switch n.Op {
	case api.FImp:
		w.negative[w.left(at)] = true
		fallthrough
	case api.FAnd, api.FOr, api.FUntil, api.FRel:
		left := w.left(at)
		w.negative[left] = w.negative[left] != negative
		fallthrough
	case api.FNext, api.FFin, api.FGlob:
		w.negative[at-1] = negative
		fallthrough
	case api.FTrue, api.FFalse:
		w.put(sign(n.Op, negative))
	case api.FNot:
		w.negative[at-1] = !negative
	case api.FProp:
		if negative {
			w.put(api.Node{Op: api.FNot})
		}
		w.put(n)
	}
}

// keep keeps the constant that the form of the part at that place begins with, if there is one, till all behind it is written.
func (w *writer) keep(at int) {
	if first := forms[w.f[at].Op].first; first != 0 {
		w.waiting = append(w.waiting, constant{sign(first, w.negative[at]), w.begins[at]})
	}
}

// lead writes the constants of the parts that begin at that place, the innermost one's first: it was kept last, and its place is the rightmost.
func (w *writer) lead(at int) {
	for len(w.waiting) > 0 {
		last := len(w.waiting) - 1
		if w.waiting[last].begin != at {
			return
		}
		w.put(w.waiting[last].node)
		w.waiting = w.waiting[:last]
	}
}

// put writes n ahead of what is written.
func (w *writer) put(n api.Node) {
	w.written = append(w.written, n)
}

// left is the left one of the two parts of the node at that place.
func (w *writer) left(at int) int {
	return w.begins[at-1] - 1
}

// sign is what the form of a part of that operation ends with.
func sign(op int, negative bool) api.Node {
	if negative {
		return api.Node{Op: forms[op].negative}
	}
	return api.Node{Op: forms[op].positive}
}
