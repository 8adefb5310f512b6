// Package octet is layer 2: numbers, lists and texts as bytes, one way alone. See shared/doc/02-octet.md.
package octet

import (
	"bytes"

	"lariat/api"
)

// The bytes of a number: seven bits a byte, with more on each but the last one.
const (
	bits    = 7
	more    = 1 << bits
	most    = 10 // bytes that 64 bits take
	highest = 1  // the tenth byte has but the last one of 64 bits
)

// cursor is bytes, and the place in them. A call of it that tells a fault may have gone on: attempt takes it back.
type cursor struct {
	b     []byte
	place int
}

func (c *cursor) left() int {
	return len(c.b) - c.place
}

func (c *cursor) number() (int, api.Errno) {
	u := uint64(0)
	for i := range most {
		if i == c.left() {
			return 0, api.ErrShort
		}
		x := c.b[c.place+i]
		u |= uint64(x%more) << (bits * i)
		if x >= more {
			continue
		}
		if i == most-1 && x > highest || i > 0 && x == 0 {
			return 0, api.ErrForm
		}
		c.place += i + 1
		return signed(u), api.OK
	}
	return 0, api.ErrForm
}

// count is a number of things each of which takes a byte at least: more than the bytes that are left can't be there, and no room is made for them.
func (c *cursor) count() (int, api.Errno) {
	n, why := c.number()
	if why != api.OK {
		return 0, why
	}
	if n < 0 {
		return 0, api.ErrForm
	}
	if n > c.left() {
		return 0, api.ErrShort
	}
	return n, api.OK
}

func (c *cursor) list() ([]int, api.Errno) {
	n, why := c.count()
	if why != api.OK {
		return nil, why
	}
	return gather(n, c.number)
}

func (c *cursor) text() (string, api.Errno) {
	n, why := c.count()
	if why != api.OK {
		return "", why
	}
	start := c.place
	c.place += n
	return string(c.b[start:c.place]), api.OK
}

func gather(n int, next func() (int, api.Errno)) ([]int, api.Errno) {
	l := make([]int, 0, n)
	for range n {
		x, why := next()
		if why != api.OK {
			return nil, why
		}
		l = append(l, x)
	}
	return l, api.OK
}

// Reader reads bytes, one thing behind the other. From alone makes one.
type Reader struct {
	cursor
	made  bool
	fault api.Errno
}

// From makes a reader at the first byte of a copy of b.
func From(b []byte) *Reader {
	return &Reader{cursor: cursor{b: bytes.Clone(b)}, made: true}
}

// attempt keeps a fault, and goes back to where it was then: a call that is refused reads nothing.
func attempt[T any](r *Reader, read func() (T, api.Errno)) T {
	start := r.place
	x, why := read()
	if why != api.OK {
		r.place, r.fault = start, why
	}
	return x
}

// Num reads a number.
func (r *Reader) Num() int {
	if r.Err() != api.OK {
		return 0
	}
	return attempt(r, r.number)
}

// List reads a list.
func (r *Reader) List() []int {
	if r.Err() != api.OK {
		return nil
	}
	return attempt(r, r.list)
}

// Text reads a text.
func (r *Reader) Text() string {
	if r.Err() != api.OK {
		return ""
	}
	return attempt(r, r.text)
}

// Left is how many bytes stand from the place on.
func (r *Reader) Left() int {
	if r == nil || !r.made {
		return 0
	}
	return r.left()
}

// Err is the first fault.
func (r *Reader) Err() api.Errno {
	if r == nil || !r.made {
		return api.ErrNil
	}
	return r.fault
}

// Num is b, and the bytes of n behind it.
func Num(b []byte, n int) []byte {
	return number(bytes.Clone(b), n)
}

// List is b, and the bytes of l behind it.
func List(b []byte, l []int) []byte {
	out := number(bytes.Clone(b), len(l))
	for _, n := range l {
		out = number(out, n)
	}
	return out
}

// Text is b, and the bytes of s behind it.
func Text(b []byte, s string) []byte {
	return append(number(bytes.Clone(b), len(s)), s...)
}

// number appends to own: the caller's bytes are copied ahead of it, as what lies behind their length is not ours.
func number(own []byte, n int) []byte {
	u := unsigned(n)
	for u >= more {
		own = append(own, byte(u%more)+more)
		u /= more
	}
	return append(own, byte(u))
}

// unsigned makes 0, -1, 1, -2 .. to 0, 1, 2, 3 .. : for n below 0 it is -2 times n, less 1, which the complement tells without going round.
func unsigned(n int) uint64 {
	if n < 0 {
		return uint64(^n)*2 + 1
	}
	return uint64(n) * 2
}

func signed(u uint64) int {
	half := int(u / 2)
	if u%2 == 1 {
		return ^half
	}
	return half
}
