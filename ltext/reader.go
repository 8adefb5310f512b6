package ltext

import (
	"lariat/api"
	"lariat/lex"
)

// What stands in a text beside names and the signs of operations.
const (
	opening = "("
	closing = ")"
	blank   = " "
)

// end is the kind of what stands behind the last token. No token has it.
const end = 0

// reader reads a formula token by token, and goes down into no part.
type reader struct {
	names   []string
	next    func(t lex.Token) bool // the step that reads the next token; false, if the formula can't go on at it
	nodes   []api.Node             // of what has been read
	pending []operation            // whose last part is still to come, or may still go on; a bracket that is open is one that asks for nothing
}

// all is the formula of all tokens of a text that is so long; or the place at which it can't go on, and why.
func (r *reader) all(tokens []lex.Token, length int) ([]api.Node, int, api.Errno) {
	r.next = r.begin
	for _, t := range append(tokens, lex.Token{Kind: end, At: length}) {
		if !r.next(t) {
			return nil, t.At, r.refusal(t)
		}
	}
	return r.nodes, 0, api.OK
}

// begin is the step with which a part begins.
func (r *reader) begin(t lex.Token) bool {
	if at, is := proposition(r.names, t.Text); is {
		r.leaf(api.Node{Op: api.FProp, N: at})
		return true
	}
	o, is := written(t.Text)
	switch {
	case t.Text == opening:
		r.pending = append(r.pending, operation{})
	case !is || o.left > 0:
		return false
	case o.right > 0:
		r.pending = append(r.pending, o)
	default:
		r.leaf(api.Node{Op: o.op})
	}
	return true
}

// leaf puts a part that is n alone.
func (r *reader) leaf(n api.Node) {
	r.nodes = append(r.nodes, n)
	r.next = r.goOn
}

// goOn is the step behind a part: it goes on as the left one of a greater part, or ends.
func (r *reader) goOn(t lex.Token) bool {
	o, is := written(t.Text)
	switch {
	case is && o.left > 0:
		r.settle(o.binds)
		r.pending = append(r.pending, o)
		r.next = r.begin
		return true
	case t.Text == closing:
		return r.shut()
	case t.Kind == end:
		r.settle(0)
		return len(r.pending) == 0
	}
	return false
}

// shut shuts the bracket that was opened last; false, if none is open.
func (r *reader) shut() bool {
	r.settle(0)
	if len(r.pending) == 0 {
		return false
	}
	r.pending = r.pending[:len(r.pending)-1]
	return true
}

// settle puts behind their parts, the last one first, those operations whose last part does not go on by one that binds so: they ask for more.
func (r *reader) settle(binds int) {
	last := len(r.pending) - 1
	for last >= 0 && r.pending[last].right > binds {
		r.nodes = append(r.nodes, api.Node{Op: r.pending[last].op})
		last--
	}
	r.pending = r.pending[:last+1]
}

// refusal is why the formula can't go on at t.
func (r *reader) refusal(t lex.Token) api.Errno {
	_, sign := written(t.Text)
	_, name := proposition(r.names, t.Text)
	switch {
	case t.Kind == end:
		return api.ErrShort
	case t.Kind == lex.Word && !sign && !name:
		return api.ErrNone
	}
	return api.ErrForm
}
