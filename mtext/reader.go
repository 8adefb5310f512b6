package mtext

import (
	"slices"
	"strings"

	"lariat/api"
	"lariat/etext"
	"lariat/model"
	"lariat/proc"
)

// The row of words whose lines come in this order; below all of them stands none.
const (
	none = iota
	scalarRow
	varRow
	chanRow
	procRow
	propRow
)

// kind is what lines with one word are: the place of that word in the row, or, if it has none, the words that it may stand right behind; and what such a line does.
type kind struct {
	row    int
	behind []string
	does   func(f *fields)
}

// waiting is an expression, which may speak of what stands in later lines, with its line, its process (below 0: it has none), and what puts it into the model.
type waiting struct {
	line, proc int
	text       string
	put        func(e []api.Node)
}

// reader reads a model line by line. Places that are below 0 are kept in the model: with such a one the reading ends.
type reader struct {
	model   api.Model
	kinds   map[string]kind
	waiting []waiting
	at      int    // the line
	last    string // the word of the line ahead
	row     int    // the last one of the row that has been met
}

func newReader() *reader {
	r := &reader{}
	heads := []string{procWord, localWord}
	within := []string{cmdWord, whenWord, setWord, putWord, letWord, sendWord, recvWord}
	r.kinds = map[string]kind{
		scalarWord: {row: scalarRow, does: r.scalar},
		varWord:    {row: varRow, does: r.variable},
		chanWord:   {row: chanRow, does: r.channel},
		procWord:   {row: procRow, does: r.process},
		propWord:   {row: propRow, does: r.proposition},
		localWord:  {behind: heads, does: r.local},
		cmdWord:    {behind: slices.Concat(heads, within), does: r.command},
		whenWord:   {behind: []string{cmdWord}, does: r.when},
		setWord:    {behind: within, does: r.set},
		atWord:     {behind: within, does: r.index},
		putWord:    {behind: []string{atWord}, does: r.put},
		letWord:    {behind: within, does: r.let},
		sendWord:   {behind: within, does: r.send},
		recvWord:   {behind: within, does: r.receive},
	}
	return r
}

// read is the model that those lines tell; or the line that is wrong, and why.
func read(lines []string) (api.Model, int, api.Errno) {
	r := newReader()
	for at, line := range lines {
		r.at = at
		if why := r.line(line); why != api.OK {
			return api.Model{}, at, why
		}
	}
	if r.last == atWord {
		return api.Model{}, len(lines), api.ErrForm
	}
	if at, why := r.expressions(); why != api.OK {
		return api.Model{}, at, why
	}
	if why := model.Check(r.model).Why; why != api.OK {
		return api.Model{}, len(lines), why
	}
	return r.model, 0, api.OK
}

// line reads a line, its expression left alone; or tells why it may not be.
func (r *reader) line(line string) api.Errno {
	f := &fields{left: strings.Split(line, blank)}
	word := f.next()
	k, is := r.kinds[word]
	if !is || !r.stands(k) {
		return api.ErrForm
	}
	k.does(f)
	r.last, r.row = word, max(r.row, k.row)
	return f.end()
}

// stands tells whether such a line may stand behind the lines ahead.
func (r *reader) stands(k kind) bool {
	if k.row == none {
		return slices.Contains(k.behind, r.last)
	}
	return k.row >= r.row && r.last != atWord
}

// expressions reads those that wait; or tells the line of the first that is wrong, and why.
func (r *reader) expressions() (int, api.Errno) {
	var s api.Scope
	for i, w := range r.waiting {
		if i == 0 || w.proc != r.waiting[i-1].proc {
			s = proc.Scope(r.model, w.proc)
		}
		e, _, why := etext.Parse(w.text, s)
		if why != api.OK {
			return w.line, why
		}
		w.put(e)
	}
	return 0, api.OK
}
