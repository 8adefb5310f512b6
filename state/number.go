package state

import "slices"

// base is what the digits of a number are to.
const base = 256

// number is a number from 0 on, without an end: its digits, the lowest first.
type number []byte

// further is n times by, and digit. If n has no nought at its end, neither has it; it takes n's memory.
func (n number) further(by, digit int) number {
	more := digit
	for i, d := range n {
		more += int(d) * by
		n[i] = byte(more % base)
		more /= base
	}
	for ; more > 0; more /= base {
		n = append(n, byte(more%base))
	}
	return n
}

// divide divides n by by, and tells what is left.
func (n number) divide(by int) int {
	left := 0
	for i, d := range slices.Backward(n) {
		left = left*base + int(d)
		n[i] = byte(left / by)
		left %= by
	}
	return left
}

// number is the number of the state, without noughts at its end.
func (r reader) number() number {
	var n number
	for i, x := range r.state {
		n = n.further(r.values(i), x-r.Lo[i])
	}
	return n
}

// bytes are the bytes of the state.
func (r reader) bytes() []byte {
	n := r.number()
	n = append(n, make([]byte, len(r.greatest().number())-len(n))...)
	slices.Reverse(n)
	return n
}

// greatest reads the state with the greatest number.
func (r reader) greatest() reader {
	r.state = r.Hi
	return r
}

// fill puts into all cells what they have in the state that has those bytes.
func (r reader) fill(b []byte) {
	n := number(slices.Clone(b))
	slices.Reverse(n)
	for i := range slices.Backward(r.state) {
		r.state[i] = r.Lo[i] + n.divide(r.values(i))
	}
}

// values is how many values cell i may have.
func (r reader) values(i int) int {
	return r.Hi[i] - r.Lo[i] + 1
}
