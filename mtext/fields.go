package mtext

import (
	"strings"

	"lariat/api"
	"lariat/num"
)

// fields are those of a line that are still to be read. What is wrong with a field is kept, and the reading goes on, as a wrong form behind a name that is none's is told ahead of it.
type fields struct {
	left []string
	why  api.Errno
}

// next takes the next field, which must be there.
func (f *fields) next() string {
	if len(f.left) == 0 {
		f.why = api.ErrForm
		return ""
	}
	s := f.left[0]
	f.left = f.left[1:]
	return s
}

// name takes a name: any field. It does not hold the whole of the text.
func (f *fields) name() string {
	return strings.Clone(f.next())
}

// number takes a number.
func (f *fields) number() int {
	n, is := num.Number(f.next())
	if !is {
		f.why = api.ErrForm
	}
	return n
}

// option tells whether that word is the next field, and takes it then.
func (f *fields) option(word string) bool {
	is := len(f.left) > 0 && f.left[0] == word
	if is {
		f.next()
	}
	return is
}

// place takes a name, and is the place of what has it, as first tells it: below 0, if nothing has.
func (f *fields) place(first func(name string) int) int {
	at := first(f.next())
	if at < 0 && f.why == api.OK {
		f.why = api.ErrNone
	}
	return at
}

// expression takes the rest of the line, which must be there.
func (f *fields) expression() string {
	rest := strings.Join(f.left, blank)
	f.left = nil
	if rest == "" {
		f.why = api.ErrForm
	}
	return rest
}

// end is what is wrong with the line, of which nothing may be left.
func (f *fields) end() api.Errno {
	if len(f.left) > 0 {
		f.why = api.ErrForm
	}
	return f.why
}
