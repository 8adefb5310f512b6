package etext

import (
	"lariat/api"
	"lariat/lex"
)

// reader reads an expression token by token. Where it can't go on, it keeps the place and why, and has no tokens any more, so that whatever still reads ends.
type reader struct {
	tokens     []lex.Token // those that are still to be read
	end        int         // of the text
	scope      scope
	expression func() part
	at         int
	why        api.Errno
}

func newReader(tokens []lex.Token, end int, s api.Scope) *reader {
	r := &reader{tokens: tokens, end: end, scope: scope(s)}
	r.expression = r.tight
	for strength := upon - 1; strength > 0; strength-- {
		r.expression = r.row(strength, r.expression)
	}
	return r
}

// all is the whole expression; or the place at which it can't go on, and why.
func (r *reader) all() ([]api.Node, int, api.Errno) {
	e := r.expression()
	if len(r.tokens) > 0 {
		r.fail(r.tokens[0], api.ErrForm)
	}
	if r.why != api.OK {
		return nil, r.at, r.why
	}
	return e, 0, api.OK
}

// row is what reads a row of one strength: what next reads, with signs of that strength between.
func (r *reader) row(strength int, next func() part) func() part {
	made := map[string]func(left, right part) part{}
	for _, p := range pairs() {
		if p.strength == strength {
			made[p.sign] = p.made
		}
	}
	return func() part {
		left := next()
		for len(r.tokens) > 0 && r.tokens[0].Kind == lex.Sign {
			of, is := made[r.tokens[0].Text]
			if !is {
				break
			}
			r.take()
			left = of(left, next())
			if strength == comparing {
				break
			}
		}
		return left
	}
}

// tight is what binds as strongly as an operation upon one part, or more.
func (r *reader) tight() part {
	if r.follows(notSign) {
		return append(r.tight(), api.Node{Op: api.XNot})
	}
	if !r.follows(negSign) {
		return r.single()
	}
	if len(r.tokens) > 0 && r.tokens[0].Kind == lex.Num {
		return part{{Op: api.XNum, N: -r.number().N}}
	}
	return append(r.tight(), api.Node{Op: api.XNeg})
}

// single is what needs no brackets anywhere. No number is too great here: lex tells of such a one.
func (r *reader) single() part {
	t := r.take()
	switch {
	case t.Kind == lex.Num:
		return part{{Op: api.XNum, N: t.N}}
	case t.Kind == lex.Word:
		return r.word(t)
	case isSign(t, "("):
		e := r.expression()
		r.sign(")")
		return e
	}
	r.fail(t, api.ErrForm)
	return nil
}

// word is what begins with that word, which has been taken.
func (r *reader) word(t lex.Token) part {
	switch t.Text {
	case selfWord:
		return part{{Op: api.XSelf}}
	case lenWord:
		return r.named(api.XLen)
	case noneWord:
		return r.named(api.XNone)
	case atWord:
		return r.location()
	}
	if at, is := r.scope.first(api.XLocal, t.Text); is {
		return part{{Op: api.XLocal, N: at}}
	}
	at, is := r.scope.first(api.XVar, t.Text)
	if !is {
		r.fail(t, api.ErrNone)
		return nil
	}
	if !r.follows("[") {
		return part{{Op: api.XVar, N: at}}
	}
	index := r.expression()
	r.sign("]")
	return append(index, api.Node{Op: api.XItem, N: at})
}

// named is a leaf of this Op: a name in brackets.
func (r *reader) named(op int) part {
	r.sign("(")
	at := r.name(op)
	r.sign(")")
	return part{{Op: op, N: at}}
}

// location is how many of a process are at a location.
func (r *reader) location() part {
	r.sign("(")
	process := r.name(api.XAt)
	r.sign(",")
	t := r.number()
	if t.N >= places {
		r.fail(t, api.ErrRange)
	}
	r.sign(")")
	return part{{Op: api.XAt, N: process*places + t.N}}
}

// fail keeps the token that may not stand there, and why. What comes behind the first such token plays no part.
func (r *reader) fail(t lex.Token, why api.Errno) {
	if r.why == api.OK {
		r.at, r.why, r.tokens = t.At, why, nil
	}
}

// take is the next token, taken away. There must be one.
func (r *reader) take() lex.Token {
	if len(r.tokens) == 0 {
		none := lex.Token{At: r.end}
		r.fail(none, api.ErrForm)
		return none
	}
	t := r.tokens[0]
	r.tokens = r.tokens[1:]
	return t
}

// follows tells whether that sign is the next token, and takes it then.
func (r *reader) follows(sign string) bool {
	is := len(r.tokens) > 0 && isSign(r.tokens[0], sign)
	if is {
		r.take()
	}
	return is
}

// sign takes that sign, which must be the next token.
func (r *reader) sign(sign string) {
	if t := r.take(); !isSign(t, sign) {
		r.fail(t, api.ErrForm)
	}
}

// number is the next token, which must be a number.
func (r *reader) number() lex.Token {
	t := r.take()
	if t.Kind != lex.Num {
		r.fail(t, api.ErrForm)
	}
	return t
}

// name is the place of what the next token, which must be a word, stands for among the things of which this Op speaks.
func (r *reader) name(op int) int {
	t := r.take()
	if t.Kind != lex.Word {
		r.fail(t, api.ErrForm)
	}
	at, is := r.scope.first(op, t.Text)
	if !is {
		r.fail(t, api.ErrNone)
	}
	return at
}

func isSign(t lex.Token, sign string) bool {
	return t.Kind == lex.Sign && t.Text == sign
}
