package mtext

import (
	"slices"
	"strings"

	"lariat/api"
	"lariat/etext"
	"lariat/num"
	"lariat/proc"
)

// writer writes a model that may be, line by line.
type writer struct {
	model api.Model
	scope api.Scope // of the expressions in the lines that it is at
	text  strings.Builder
}

// text is the text of m, which may be, however long that is.
func text(m api.Model) string {
	w := &writer{model: m}
	for _, part := range []func(){w.scalars, w.vars, w.chans, w.procs, w.props} {
		part()
	}
	return w.text.String()
}

func (w *writer) scalars() {
	for _, s := range w.model.Scalars {
		w.line(scalarWord, s.Name, num.Decimal(s.Size))
	}
}

func (w *writer) vars() {
	for _, v := range w.model.Vars {
		w.line(varWord, v.Name, w.over(v.Over), w.values(v.Scalar, v.Lo, v.Hi), num.Decimal(v.Init))
	}
}

func (w *writer) chans() {
	for _, c := range w.model.Chans {
		w.line(chanWord, c.Name, option(lossyWord, c.Lossy), num.Decimal(c.Cap), w.values(c.Scalar, c.Lo, c.Hi))
	}
}

func (w *writer) procs() {
	for i, p := range w.model.Procs {
		w.scope = proc.Scope(w.model, i)
		w.line(procWord, p.Name, w.over(p.Over), num.Decimal(p.Locs))
		for _, v := range p.Vars {
			w.line(localWord, v.Name, w.values(v.Scalar, v.Lo, v.Hi), num.Decimal(v.Init))
		}
		for _, c := range p.Cmds {
			w.cmd(c)
		}
	}
}

func (w *writer) props() {
	w.scope = proc.Scope(w.model, -1)
	for _, p := range w.model.Props {
		w.line(propWord, p.Name, w.expression(p.Expr))
	}
}

func (w *writer) cmd(c api.Cmd) {
	w.line(cmdWord, c.Name, option(fairWord, c.Fair), num.Decimal(c.From), num.Decimal(c.To))
	if len(c.Guard) > 0 {
		w.line(whenWord, w.expression(c.Guard))
	}
	for _, a := range c.Acts {
		w.act(a)
	}
}

func (w *writer) act(a api.Act) {
	switch a.Kind {
	case api.ActSet:
		w.line(setWord, w.scope.Vars[a.To].Name, w.expression(a.Value))
	case api.ActItem:
		w.line(atWord, w.expression(a.Index))
		w.line(putWord, w.scope.Vars[a.To].Name, w.expression(a.Value))
	case api.ActLocal:
		w.line(letWord, w.scope.Locals[a.To].Name, w.expression(a.Value))
	case api.ActSend:
		w.line(sendWord, w.scope.Chans[a.To].Name, w.expression(a.Value))
	case api.ActRecv:
		w.line(recvWord, w.scope.Chans[a.To].Name, w.scope.Locals[a.Local].Name)
	}
}

// line writes a line. What is empty is no field of it: nothing that a model that may be has is told by an empty one.
func (w *writer) line(fields ...string) {
	fields = slices.DeleteFunc(fields, func(f string) bool { return f == "" })
	w.text.WriteString(strings.Join(fields, blank) + lineEnd)
}

// over tells over which scalar something is; nothing, if it is over none.
func (w *writer) over(scalar int) string {
	if scalar == 0 {
		return ""
	}
	return overWord + blank + w.model.Scalars[scalar-1].Name
}

// values tells what something may be.
func (w *writer) values(scalar, lo, hi int) string {
	if scalar == 0 {
		return num.Decimal(lo) + blank + num.Decimal(hi)
	}
	return ofWord + blank + w.model.Scalars[scalar-1].Name
}

// expression is the text of e, which every expression of a model that may be has.
func (w *writer) expression(e []api.Node) string {
	s, _ := etext.Text(e, w.scope)
	return s
}

// option is a word that stands there, if that is so.
func option(word string, is bool) string {
	if is {
		return word
	}
	return ""
}
