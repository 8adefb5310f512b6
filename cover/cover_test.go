package cover_test

import (
	"fmt"
	"math"
	"slices"
	"testing"

	"lariat/api"
	"lariat/cover"
	"lariat/nnf"
	"lariat/word"
)

// of: a node; n is its N, if it has one.
func of(op int, n ...int) api.Node {
	return api.Node{Op: op, N: append(n, 0)[0]}
}

// list: a formula.
func list(l ...api.Node) []api.Node {
	return l
}

// The nodes that the told cases are made of.
var (
	tr, fa, p, q, r = of(api.FTrue, 3), of(api.FFalse, -3), of(api.FProp, 0), of(api.FProp, 1), of(api.FProp, 7)
	not, next       = of(api.FNot, 2), of(api.FNext, -2)
	and, or         = of(api.FAnd, 9), of(api.FOr, -9)
	until, rel      = of(api.FUntil, 1), of(api.FRel, 7)
)

// takes is how many parts the operation takes; -1, if it is none of a negation normal form.
func takes(op int) int {
	switch op {
	case api.FTrue, api.FFalse, api.FProp:
		return 0
	case api.FNot, api.FNext:
		return 1
	case api.FAnd, api.FOr, api.FUntil, api.FRel:
		return 2
	}
	return -1
}

// isNormal: is f a formula, however long, in negation normal form?
func isNormal(f []api.Node) bool {
	parts := 0
	for at, n := range f {
		k := takes(n.Op)
		if k < 0 || k > parts || n.Op == api.FProp && (n.N < 0 || n.N > 7) || n.Op == api.FNot && f[at-1].Op != api.FProp {
			return false
		}
		parts += 1 - k
	}
	return parts == 1
}

// kids: the parts of node at, the left one first.
func kids(f []api.Node, at int) []int {
	var own []int
	end := at - 1
	for range takes(f[at].Op) {
		own = append([]int{end}, own...)
		for parts := 0; parts != 1; end-- {
			parts += 1 - takes(f[end].Op)
		}
	}
	return own
}

// wanted: what Of(f, parts) is by the chapter's words; all ways of a round go one step on together, as lists, till none can go on.
func wanted(f []api.Node, parts []int) []cover.Cover {
	if !isNormal(f) || len(f) > 2*api.MaxForm+2 || slices.ContainsFunc(parts, func(part int) bool { return part < 0 || part >= len(f) }) {
		return nil
	}
	ways := []step{{todo: parts}}
	for slices.ContainsFunc(ways, func(s step) bool { return len(s.todo) > 0 }) {
		var after []step
		for _, s := range ways {
			after = append(after, s.on(f)...)
		}
		ways = after
	}
	var told []string
	var all []cover.Cover
	for _, s := range ways {
		slices.Sort(s.Next)
		slices.Sort(s.Now)
		s.Next = slices.Compact(s.Next)
		if text := fmt.Sprint(s.Cover); !slices.Contains(told, text) {
			told, all = append(told, text), append(all, s.Cover)
		}
	}
	return all
}

// step: a way so far, and what is to be made true.
type step struct {
	cover.Cover
	todo []int
}

// with: the way with those parts ahead of all that are to be made true, and those parts next.
func (s step) with(ahead, next []int) step {
	s.todo = append(slices.Clone(ahead), s.todo...)
	s.Next = append(slices.Clone(s.Next), next...)
	return s
}

// on: where the way goes next.
func (s step) on(f []api.Node) []step {
	if len(s.todo) == 0 {
		return []step{s}
	}
	at := s.todo[0]
	s.todo = s.todo[1:]
	if slices.Contains(s.Now, at) {
		return []step{s}
	}
	s.Now = append(slices.Clone(s.Now), at)
	own := kids(f, at)
	switch f[at].Op {
	case api.FTrue:
	case api.FFalse:
		return nil
	case api.FProp:
		s.Need |= 1 << f[at].N
	case api.FNot:
		s.Ban |= 1 << f[at-1].N
	case api.FAnd:
		return []step{s.with(own, nil)}
	case api.FOr:
		return []step{s.with(own[:1], nil), s.with(own[1:], nil)}
	case api.FNext:
		return []step{s.with(nil, own)}
	case api.FUntil:
		return []step{s.with(own[1:], nil), s.with(own[:1], []int{at})}
	case api.FRel:
		return []step{s.with(own, nil), s.with(own[1:], []int{at})}
	}
	if s.Need&s.Ban != 0 {
		return nil
	}
	return []step{s}
}

// met: what Meets(f, c) is by the chapter's words.
func met(f []api.Node, c cover.Cover) uint64 {
	set, untils := uint64(0), 0
	for at, n := range f {
		if n.Op != api.FUntil {
			continue
		}
		if untils < 64 && (!slices.Contains(c.Now, at) || slices.Contains(c.Now, at-1)) {
			set |= 1 << untils
		}
		untils++
	}
	if !isNormal(f) {
		return 0
	}
	return set
}

// equal: are the covers the same, in order?
func equal(a, b []cover.Cover) bool {
	return slices.EqualFunc(a, b, func(a, b cover.Cover) bool {
		return a.Need == b.Need && a.Ban == b.Ban && slices.Equal(a.Next, b.Next) && slices.Equal(a.Now, b.Now)
	})
}

// check: Of and Meets tell what the chapter's words say, and what follows of them (P28.4).
func check(t *testing.T, f []api.Node, parts []int) []cover.Cover {
	t.Helper()
	before, early := slices.Clone(f), slices.Clone(parts)
	got, want := cover.Of(f, parts), wanted(f, parts)
	if !equal(got, want) {
		t.Fatalf("Of(%v, %v) = %v, not %v", f, parts, got, want)
	}
	for _, c := range got {
		if got := cover.Meets(f, c); got != met(f, c) {
			t.Fatalf("Meets(%v, %v) = %b, not %b", f, c, got, met(f, c))
		}
		rises := func(l []int) bool { return slices.IsSorted(l) && len(slices.Compact(slices.Clone(l))) == len(l) }
		if !rises(c.Next) || !rises(c.Now) || c.Need&c.Ban != 0 || slices.ContainsFunc(parts, func(part int) bool { return !slices.Contains(c.Now, part) }) {
			t.Fatalf("Of(%v, %v) has %v", f, parts, c)
		}
	}
	if !slices.Equal(f, before) || !slices.Equal(parts, early) {
		t.Fatalf("%v, %v were changed: %v, %v", before, early, f, parts)
	}
	return got
}

// formulas: all formulas in negation normal form of so many nodes.
func formulas(size int, of []api.Node, tell func(f []api.Node)) {
	f := make([]api.Node, size)
	var fill func(at, parts int)
	fill = func(at, parts int) {
		if at == size {
			if parts == 1 {
				tell(f)
			}
			return
		}
		for _, n := range of {
			if k := takes(n.Op); k <= parts && (n.Op != api.FNot || f[at-1].Op == api.FProp) {
				f[at] = n
				fill(at+1, parts+1-k)
			}
		}
	}
	fill(0, 0)
}

// chance: numbers that look like chance, the same each time.
type chance uint64

func (c *chance) below(n int) int {
	*c = *c*6364136223846793005 + 1442695040888963407
	return int(*c>>33) % n
}

// grown: a formula of so many nodes in negation normal form.
func grown(c *chance, size int) []api.Node {
	n := c.below(9)
	switch {
	case size == 1:
		return list([]api.Node{of(api.FTrue, n), of(api.FFalse, -n), of(api.FProp, n%8), p, q, p, q}[c.below(7)])
	case size == 2 && n < 5:
		return list(of(api.FProp, n%3), not)
	case size == 2 || n < 2:
		return append(grown(c, size-1), of(api.FNext, n))
	}
	left := 1 + c.below(size-2)
	return append(append(grown(c, left), grown(c, size-1-left)...), of([]int{api.FAnd, api.FAnd, api.FOr, api.FUntil, api.FRel}[c.below(5)], -n))
}

// some: parts of a formula of so many nodes, in any order, some of them more than once.
func some(c *chance, nodes, most int) []int {
	var parts []int
	for range c.below(most + 1) {
		parts = append(parts, c.below(nodes))
	}
	return parts
}

// P28.1, P28.2
func TestTold(t *testing.T) {
	type covers = []cover.Cover
	set := func(numbers ...int) []int { return numbers }
	for i, x := range []struct {
		f     []api.Node
		parts []int
		want  covers
		meets []uint64
	}{
		{list(p, q, until), set(2), covers{{2, 0, nil, set(1, 2)}, {1, 0, set(2), set(0, 2)}}, []uint64{1, 0}},
		{list(p, q, until), set(2, 1), covers{{2, 0, nil, set(1, 2)}, {3, 0, set(2), set(0, 1, 2)}}, []uint64{1, 1}},
		{list(p, q, until), set(1, 2), covers{{2, 0, nil, set(1, 2)}, {3, 0, set(2), set(0, 1, 2)}}, []uint64{1, 1}},
		{list(p, q, until), set(), covers{{}}, []uint64{1}},
		{list(p, q, until), set(0), covers{{1, 0, nil, set(0)}}, []uint64{1}},
		{list(p, q, until), set(0, 0, 0), covers{{1, 0, nil, set(0)}}, []uint64{1}},
		{list(p, q, rel), set(2), covers{{3, 0, nil, set(0, 1, 2)}, {2, 0, set(2), set(1, 2)}}, []uint64{0, 0}},
		{list(tr), set(0), covers{{0, 0, nil, set(0)}}, []uint64{0}},
		{list(fa), set(0), nil, nil}, {list(fa), set(), covers{{}}, []uint64{0}},
		{list(r), set(0), covers{{128, 0, nil, set(0)}}, []uint64{0}},
		{list(r, not), set(1), covers{{0, 128, nil, set(1)}}, []uint64{0}},
		{list(r, not), set(0), covers{{128, 0, nil, set(0)}}, []uint64{0}},
		{list(r, not), set(0, 1), nil, nil}, {list(r, not), set(1, 0), nil, nil},
		{list(p, q, and), set(2), covers{{3, 0, nil, set(0, 1, 2)}}, []uint64{0}},
		{list(p, p, not, and), set(3), nil, nil}, {list(p, not, p, and), set(3), nil, nil}, {list(p, not, p, not, and), set(4), covers{{0, 1, nil, set(1, 3, 4)}}, []uint64{0}},
		{list(p, q, or), set(2), covers{{1, 0, nil, set(0, 2)}, {2, 0, nil, set(1, 2)}}, []uint64{0, 0}},
		{list(p, q, or), set(2, 0, 1), covers{{3, 0, nil, set(0, 1, 2)}}, []uint64{0}},
		{list(p, p, or), set(2), covers{{1, 0, nil, set(0, 2)}, {1, 0, nil, set(1, 2)}}, []uint64{0, 0}},
		{list(fa, q, or), set(2), covers{{2, 0, nil, set(1, 2)}}, []uint64{0}}, {list(q, fa, or), set(2), covers{{2, 0, nil, set(0, 2)}}, []uint64{0}},
		{list(p, next), set(1), covers{{0, 0, set(0), set(1)}}, []uint64{0}}, {list(fa, next, next), set(1, 2), covers{{0, 0, set(0, 1), set(1, 2)}}, []uint64{0}},
		{list(p, q, until, next), set(2, 3), covers{{2, 0, set(2), set(1, 2, 3)}, {1, 0, set(2), set(0, 2, 3)}}, []uint64{1, 0}},
		{list(tr, p, until, tr, q, until, and), set(6), covers{
			{3, 0, nil, set(1, 2, 4, 5, 6)}, {1, 0, set(5), set(1, 2, 3, 5, 6)}, {2, 0, set(2), set(0, 2, 4, 5, 6)}, {0, 0, set(2, 5), set(0, 2, 3, 5, 6)},
		}, []uint64{3, 1, 2, 0}},
		{list(fa, tr, p, until, rel), set(4), covers{{1, 0, set(4), set(2, 3, 4)}, {0, 0, set(3, 4), set(1, 3, 4)}}, []uint64{1, 0}},
		{list(p, q, or, r, or), set(4, 2), covers{{1, 0, nil, set(0, 2, 4)}, {2, 0, nil, set(1, 2, 4)}, {129, 0, nil, set(0, 2, 3, 4)}, {130, 0, nil, set(1, 2, 3, 4)}}, []uint64{0, 0, 0, 0}},
		{list(p, q, or, r, or), set(3, 4), covers{{129, 0, nil, set(0, 2, 3, 4)}, {130, 0, nil, set(1, 2, 3, 4)}, {128, 0, nil, set(3, 4)}}, []uint64{0, 0, 0}},
	} {
		got := check(t, x.f, x.parts)
		if !equal(got, x.want) {
			t.Errorf("%d: Of(%v, %v) = %v, not %v", i, x.f, x.parts, got, x.want)
		}
		for k, c := range got {
			if meets := cover.Meets(x.f, c); meets != x.meets[k] {
				t.Errorf("%d: Meets of %d = %b", i, k, meets)
			}
		}
	}
}

// P28.1, P28.2: all short formulas, with all parts of them, rising and falling.
func TestShort(t *testing.T) {
	for size := 1; size <= 5; size++ {
		formulas(size, list(tr, fa, p, q, not, and, or, next, until, rel), func(f []api.Node) {
			check(t, f, []int{size - 1})
			if size == 5 && f[0] != p {
				return
			}
			for set := range 1 << size {
				var parts []int
				for part := range size {
					if set>>part&1 == 1 {
						parts = append(parts, part)
					}
				}
				check(t, f, parts)
				slices.Reverse(parts)
				check(t, f, parts)
			}
		})
	}
}

// P28.1, P28.2: long formulas, with parts in any order.
func TestGrown(t *testing.T) {
	c := chance(29)
	for i := range 20000 {
		f := grown(&c, 1+i%24)
		check(t, f, some(&c, len(f), 5))
		check(t, f, []int{len(f) - 1})
	}
}

// P28.3: a word satisfies all of parts at a place just if there is a cover that fits the place and the next one.
func TestCovers(t *testing.T) {
	c := chance(30)
	for i := range 10000 {
		f := grown(&c, 1+i%14)
		parts := some(&c, len(f), 3)
		covers := cover.Of(f, parts)
		for range 4 {
			w := api.Word{Stem: make([]uint64, c.below(3)), Loop: make([]uint64, 1+c.below(4))}
			for _, sets := range [][]uint64{w.Stem, w.Loop} {
				for k := range sets {
					sets[k] = uint64(c.below(256))
				}
			}
			checkCovers(t, f, parts, covers, w)
		}
	}
}

func checkCovers(t *testing.T, f []api.Node, parts []int, covers []cover.Cover, w api.Word) {
	t.Helper()
	truth := word.Truth(f, w)
	at := func(k int, parts []int) bool {
		return !slices.ContainsFunc(parts, func(part int) bool { return !truth[part][k] })
	}
	for k := range word.Len(w) {
		after := k + 1
		if after == word.Len(w) {
			after = len(w.Stem)
		}
		set := word.At(w, k)
		fits := slices.ContainsFunc(covers, func(c cover.Cover) bool {
			return c.Need&set == c.Need && c.Ban&set == 0 && at(after, c.Next)
		})
		if fits != at(k, parts) {
			t.Fatalf("%v, %v at %d of %v: %v, by %v", f, parts, k, w, at(k, parts), covers)
		}
	}
}

// P28.1: formulas of as many nodes as may be, and of one more.
func TestLimit(t *testing.T) {
	const most = 2*api.MaxForm + 2
	for i, f := range [][]api.Node{
		append(list(p), slices.Repeat(list(next), most-1)...),
		append(list(p, not), slices.Repeat(list(q, until), most/2-1)...),
		slices.Concat(slices.Repeat(list(q), most/2), slices.Repeat(list(or), most/2-1), list(next)),
	} {
		if len(f) != most {
			t.Fatal(i, len(f))
		}
		for part := range f {
			check(t, f, []int{part})
		}
		check(t, f, []int{0, most - 1, most - 2, 1, 0})
		if covers := cover.Of(f, []int{most - 1}); len(covers) != []int{1, 25, 1}[i] {
			t.Error(i, len(covers))
		}
		long := append(slices.Clone(f), next)
		if covers := cover.Of(long, nil); !isNormal(long) || len(covers) != 0 || len(cover.Of(long, []int{0})) != 0 || len(cover.Of(f, nil)) != 1 {
			t.Error(i, covers)
		}
	}
}

// P28.1: very many covers in order, and very many ways that come to one cover.
func TestMany(t *testing.T) {
	f := list(tr, p, until)
	for range 11 {
		f = append(f, tr, q, until, and)
	}
	covers := cover.Of(f, []int{len(f) - 1})
	if len(covers) != 1<<12 {
		t.Fatal(len(covers))
	}
	for i, c := range covers {
		if off := 1<<12 - 1 - mirrored(i, 12); cover.Meets(f, c) != uint64(off) || len(c.Next) != 12-ones(off) {
			t.Fatal(i, c)
		}
	}
	f = append(slices.Repeat(list(p), 15), slices.Repeat(list(or), 14)...)
	var parts []int
	for part := range f {
		parts = append([]int{part}, parts...)
	}
	if covers := cover.Of(f, parts); len(covers) != 1 || covers[0].Need != 1 || len(covers[0].Now) != 29 {
		t.Error(covers)
	}
	if covers := cover.Of(f, slices.Repeat(parts, 10000)); len(covers) != 1 {
		t.Error(covers)
	}
}

// mirrored: so many bits of n, the last one first.
func mirrored(n, bits int) int {
	back := 0
	for range bits {
		n, back = n>>1, back<<1|n&1
	}
	return back
}

// ones: how many bits of n are set.
func ones(n int) int {
	count := 0
	for ; n != 0; n >>= 1 {
		count += n & 1
	}
	return count
}

// P28.1, P28.2: no formulas, formulas not in negation normal form, numbers that are no nodes.
func TestNothing(t *testing.T) {
	now := cover.Cover{Now: []int{0, 1, 2}}
	for _, f := range [][]api.Node{
		nil, list(of(0)), list(of(13)), list(p, q), list(p, until), list(not), list(of(api.FProp, 8)), list(of(api.FProp, -1)), list(p, q, of(api.FImp)), list(p, of(api.FFin)), list(p, of(api.FGlob)), list(p, not, not), list(tr, not), list(p, q, until, not), list(tr, not, q, until), list(p, q, until, p), list(tr, tr, until, of(api.FGlob)),
	} {
		for _, parts := range [][]int{nil, {0}, {0, 1}, {2}, {-1}} {
			if len(cover.Of(f, parts)) != 0 || cover.Meets(f, now) != 0 || cover.Meets(f, cover.Cover{}) != 0 {
				t.Error(f, parts)
			}
		}
	}
	f := list(p, q, until)
	for _, parts := range [][]int{{-1}, {3}, {0, 3}, {3, 0}, {2, -1}, {64}, {66}, {-64}, {math.MaxInt}, {math.MinInt}, {2, math.MinInt, 2}, {1 << 32}} {
		if covers := check(t, f, parts); len(covers) != 0 {
			t.Error(parts, covers)
		}
	}
	c := chance(31)
	raw := list(tr, p, not, and, until, next, of(api.FImp), of(api.FFin), of(api.FGlob), of(0), of(13), of(-1), of(math.MinInt), of(api.FProp, 8), of(api.FProp, -1), of(api.FProp, math.MaxInt))
	for i := range 4000 {
		f := grown(&c, 1+i%20)
		at := c.below(len(f))
		switch c.below(3) {
		case 0:
			f[at] = raw[c.below(len(raw))]
		case 1:
			f = slices.Delete(f, at, at+1)
		default:
			f = slices.Insert(f, at, raw[c.below(len(raw))])
		}
		parts := some(&c, 30, 3)
		check(t, f, parts)
		if now := (cover.Cover{Now: parts}); cover.Meets(f, now) != met(f, now) {
			t.Fatalf("Meets(%v, %v) = %b", f, now, cover.Meets(f, now))
		}
	}
}

// P28.2: raw covers, long formulas, and more untils than there are bits.
func TestMeets(t *testing.T) {
	f := list(p, q, until, p, until, q, or)
	for _, x := range []struct {
		now  []int
		want uint64
	}{
		{nil, 3}, {[]int{2}, 2}, {[]int{4}, 1}, {[]int{2, 4}, 0}, {[]int{4, 3, 2}, 2}, {[]int{1, 2}, 3}, {[]int{2, 1, 4, 3}, 3}, {[]int{0, 2, 5}, 2}, {[]int{2, 2, 2}, 2},
		{[]int{-1, 7, 66, 68, math.MaxInt, math.MinInt, 2, -62, 1 << 32}, 2}, {[]int{66, 1 << 60, -1}, 3}, {[]int{0, 1, 3, 5, 6}, 3},
	} {
		c := cover.Cover{Need: math.MaxUint64, Ban: 7, Next: []int{0, 1, 2, 3, -5}, Now: x.now}
		if got := cover.Meets(f, c); got != x.want || got != met(f, c) {
			t.Errorf("Meets with %v = %b, not %b", x.now, got, x.want)
		}
	}
	for _, count := range []int{26, 63, 64, 65, 1 << 16} {
		f := append(list(p), slices.Repeat(list(q, until), count)...)
		every := uint64(math.MaxUint64) >> max(64-count, 0)
		var last, untils []int
		for i := range count {
			last, untils = append(last, 2*i+1, 2*i+2), append(untils, 2*i+2)
		}
		for i, want := range []uint64{every, every, 0, every &^ 1, every & 1, every &^ (1 << 63)} {
			now := [][]int{nil, last, untils, {2}, append([]int{1}, untils...), {0, 128}}[i]
			if got := cover.Meets(f, cover.Cover{Now: now}); got != want {
				t.Errorf("%d of %d untils: %b, not %b", i, count, got, want)
			}
		}
	}
	if f := append(list(p), slices.Repeat(list(next), 1<<17)...); cover.Meets(append(f, q, until), cover.Cover{Now: []int{len(f) + 1}}) != 0 || cover.Meets(append(f, not), cover.Cover{}) != 0 {
		t.Error("long")
	}
}

// The formulas that nnf makes of any that may be, and of their negations, are not too long.
func TestForms(t *testing.T) {
	f := append(list(p), slices.Repeat(list(of(api.FGlob)), api.MaxForm-1)...)
	form := nnf.Of(append(f, of(api.FNot)))
	if covers := check(t, form, []int{len(form) - 1}); len(covers) == 0 {
		t.Error(form)
	}
}

// What is answered is new, and what stands behind a list's length plays no part.
func TestShared(t *testing.T) {
	whole, numbers := list(p, next, q, until, q, or, of(99), and), []int{5, 3, 1, 4, 99, -1}
	before, early := slices.Clone(whole), slices.Clone(numbers)
	f, parts := whole[:6], numbers[:3]
	want := wanted(f, parts)
	for range 2 {
		covers := check(t, f, parts)
		for i := range covers {
			covers[i].Need, covers[i].Ban = 0, 0
			for _, l := range [][]int{covers[i].Next, covers[i].Now} {
				_ = append(l, 77, 77, 77, 77)
				for k := range l {
					l[k] = 77
				}
			}
			if !equal(covers[i+1:], want[i+1:]) {
				t.Fatal(covers, want)
			}
			for _, l := range [][]int{covers[i].Next, covers[i].Now} {
				if slices.ContainsFunc(l, func(n int) bool { return n != 77 }) {
					t.Fatal(covers)
				}
			}
		}
		if !slices.Equal(whole, before) || !slices.Equal(numbers, early) {
			t.Fatal(whole, numbers)
		}
	}
	now := []int{3, 2, 2}
	if cover.Meets(f, cover.Cover{Now: now[:1]}) != 0 || cover.Meets(f, cover.Cover{Now: now}) != 1 || !slices.Equal(now, []int{3, 2, 2}) {
		t.Error("Meets")
	}
}
