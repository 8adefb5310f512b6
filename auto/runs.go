package auto

import (
	"slices"

	"lariat/api"
	"lariat/bits"
	"lariat/word"
)

// runs are the runs of an automaton over a word. In the loop they go on by pairs: a place and a node that reads it.
//
// What pairs lead to stands in sets of nodes, place by place: a list of it may have 2^32 edges.
type runs struct {
	a  api.Auto
	w  api.Word
	to []*bits.Set // of each node those that it leads to
}

// pair is a place of the loop, counted from 0 on, and a node: small, as there may be 2^24 of them.
type pair struct {
	place, node int32
}

// over is the runs of a over w.
func over(a api.Auto, w api.Word) runs {
	r := runs{a, w, make([]*bits.Set, len(a.Nodes))}
	for q, n := range a.Nodes {
		r.to[q] = bits.Of(len(a.Nodes), n.To...)
	}
	return r
}

// taken tells whether a run meets each set again and again.
//
// Where a part leads to another one, a pair of it is left later than all of that one. So a walk back from the pair that was left last stays in its part: those that it could go on to otherwise have been met.
func (r runs) taken() bool {
	var order []pair
	on := walker{rows: r.to, fresh: r.looped(), step: 1}
	for q := range r.first().All() {
		on.walk(pair{0, int32(q)}, func(p pair) { order = append(order, p) })
	}
	back := walker{rows: r.turned(), fresh: r.blank(), step: -1}
	for _, p := range order {
		back.fresh[p.place].Put(int(p.node))
	}
	for _, p := range slices.Backward(order) {
		in, size := uint64(0), 0
		back.walk(p, func(p pair) {
			in |= r.a.Nodes[p.node].In
			size++
		})
		if in == every(r.a) && (size > 1 || size == 1 && r.stays(p)) {
			return true
		}
	}
	return false
}

// stays tells whether p leads to itself.
func (r runs) stays(p pair) bool {
	return len(r.w.Loop) == 1 && r.to[p.node].Has(int(p.node))
}

// first is the nodes that runs may be at at the loop's first place.
func (r runs) first() *bits.Set {
	on := r.readers(0).And(bits.Of(len(r.a.Nodes), r.a.Init...))
	for i := range r.w.Stem {
		next := bits.New(len(r.a.Nodes))
		for q := range on.All() {
			next = next.Or(r.to[q])
		}
		on = next.And(r.readers(i + 1))
	}
	return on
}

// looped is, of each place of the loop, the nodes that read it.
func (r runs) looped() []*bits.Set {
	sets := make([]*bits.Set, len(r.w.Loop))
	for i := range sets {
		sets[i] = r.readers(len(r.w.Stem) + i)
	}
	return sets
}

// readers is the nodes that read the word's place i.
func (r runs) readers(i int) *bits.Set {
	set := word.At(r.w, i)
	reads := func(n api.ANode) bool { return n.Need&^set == 0 && n.Ban&set == 0 }
	s := bits.New(len(r.a.Nodes))
	for q := range reading(r.a, nodes(r.a), reads) {
		s.Put(q)
	}
	return s
}

// blank is an empty set of nodes for each place of the loop.
func (r runs) blank() []*bits.Set {
	sets := make([]*bits.Set, len(r.w.Loop))
	for i := range sets {
		sets[i] = bits.New(len(r.a.Nodes))
	}
	return sets
}

// turned is, of each node, those that lead to it.
func (r runs) turned() []*bits.Set {
	from := make([]*bits.Set, len(r.to))
	for q := range from {
		from[q] = bits.New(len(r.to))
	}
	for q, to := range r.to {
		for n := range to.All() {
			from[n].Put(q)
		}
	}
	return from
}

// walker goes from pairs to pairs that were not met yet.
type walker struct {
	rows  []*bits.Set // of each node those that it goes on to
	fresh []*bits.Set // of each place the nodes that were not met there yet
	step  int32       // from place to place: 1, or -1
}

// walk goes depth first from start on. When it has met all that a pair goes on to, it leaves the pair, and hands it on.
func (w walker) walk(start pair, leave func(p pair)) {
	if !w.fresh[start.place].Drop(int(start.node)) {
		return
	}
	way := []pair{start}
	for len(way) > 0 {
		last := way[len(way)-1]
		if next, is := w.meet(last); is {
			way = append(way, next)
			continue
		}
		way = way[:len(way)-1]
		leave(last)
	}
}

// meet is a pair that p goes on to, met just now; false, if none is left.
func (w walker) meet(p pair) (pair, bool) {
	places := int32(len(w.fresh))
	place := (p.place + w.step + places) % places
	for q := range w.rows[p.node].And(w.fresh[place]).All() {
		return pair{place, int32(q)}, w.fresh[place].Drop(q)
	}
	return pair{}, false
}
