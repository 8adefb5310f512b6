package sim

import "lariat/api"

// set is a set of nodes.
type set [api.MaxAuto / 64]uint64

func (s *set) put(n int) {
	s[n/64] |= 1 << (n % 64)
}

func (s *set) drop(n int) {
	s[n/64] &^= 1 << (n % 64)
}

func (s *set) has(n int) bool {
	return s[n/64]>>(n%64)&1 == 1
}

// join puts all of t into s.
func (s *set) join(t set) {
	for i, word := range t {
		s[i] |= word
	}
}

// meet is what is in both.
func (s *set) meet(t set) set {
	for i, word := range s {
		t[i] &= word
	}
	return t
}

// relation is a relation over the nodes of an automaton.
type relation struct {
	rows [api.MaxAuto]set // of each node those that can do what it can
	from [api.MaxAuto]set // of each node those that lead to it
}

// over is the relation over a's nodes that has the pairs that can tells.
func over(a api.Auto, can func(x, y int) bool) *relation {
	r := &relation{}
	for x, n := range a.Nodes {
		for _, to := range n.To {
			r.from[to].put(x)
		}
		for y := range a.Nodes {
			if can(x, y) {
				r.rows[x].put(y)
			}
		}
	}
	return r
}

// strike strikes pairs out, round by round, till no other one hangs on one that is gone.
func (r *relation) strike() {
	var left set // the nodes whose rows were never gone over, or have lost pairs since
	for n := range r.rows {
		left.put(n)
	}
rounds:
	for {
		for n := range r.rows {
			if left == (set{}) {
				break rounds
			}
			if left.has(n) {
				left.drop(n)
				left.join(r.narrow(n))
			}
		}
	}
}

// narrow strikes out what can't go on as n does: of the nodes that lead to n, those pairs whose second node leads to none that can do what n can. It is the nodes whose rows have lost pairs.
//
// All rows that lead to n are held against one set: so a row that loses pairs one by one costs some thousand steps a time, not the square of all edges.
func (r *relation) narrow(n int) set {
	var able, lost set
	for y := range r.rows {
		if r.rows[n].has(y) {
			able.join(r.from[y])
		}
	}
	for x := range r.rows {
		if !r.from[n].has(x) {
			continue
		}
		if kept := r.rows[x].meet(able); kept != r.rows[x] {
			r.rows[x] = kept
			lost.put(x)
		}
	}
	return lost
}

// told is r as lists, of that many nodes.
func (r *relation) told(size int) [][]bool {
	l := make([][]bool, size)
	for x := range l {
		l[x] = make([]bool, size)
		for y := range l[x] {
			l[x][y] = r.rows[x].has(y)
		}
	}
	return l
}
