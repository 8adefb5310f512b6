package tableau_test

import (
	"math"
	"slices"
	"testing"

	"lariat/api"
	"lariat/auto"
	"lariat/cover"
	"lariat/ltl"
	"lariat/nnf"
	"lariat/tableau"
	"lariat/word"
)

// of: a node; n is its N, if it has one.
func of(op int, n ...int) api.Node {
	return api.Node{Op: op, N: append(n, 0)[0]}
}

// list: a formula.
func list(l ...api.Node) []api.Node {
	return l
}

// The nodes that the told cases are made of.
var (
	tr, fa, p, q, r = of(api.FTrue, 3), of(api.FFalse, -3), of(api.FProp, 0), of(api.FProp, 1), of(api.FProp, 7)
	not, next       = of(api.FNot, 2), of(api.FNext, -2)
	and, or         = of(api.FAnd, 9), of(api.FOr, -9)
	until, rel      = of(api.FUntil, 1), of(api.FRel, 7)
)

// chance: numbers that look like chance, the same each time.
type chance uint64

func (c *chance) below(n int) int {
	*c = *c*6364136223846793005 + 1442695040888963407
	return int(*c>>33) % n
}

// grown: a formula in negation normal form of so many nodes, with these operations of two parts.
func grown(c *chance, size, props int, pairs ...api.Node) []api.Node {
	n := c.below(12)
	switch {
	case size == 1:
		return list([]api.Node{tr, fa, of(api.FProp, n%props), of(api.FProp, n%props), of(api.FProp, 0), p, q}[c.below(7)])
	case size == 2 && n < 8:
		return list(of(api.FProp, n%props), not)
	case size == 2 || n < 2:
		return append(grown(c, size-1, props, pairs...), next)
	}
	left := 1 + c.below(size-2)
	if n < 6 { // deep on the right
		left = 1 + c.below(min(2, size-2))
	}
	return append(append(grown(c, left, props, pairs...), grown(c, size-1-left, props, pairs...)...), pairs[c.below(len(pairs))])
}

// formulas: all formulas in negation normal form of so many nodes.
func formulas(size int, tell func(f []api.Node)) {
	takes := map[api.Node]int{tr: 0, fa: 0, p: 0, q: 0, not: 1, next: 1, and: 2, or: 2, until: 2, rel: 2}
	f := make([]api.Node, size)
	var fill func(at, parts int)
	fill = func(at, parts int) {
		if at == size {
			if parts == 1 {
				tell(f)
			}
			return
		}
		for _, n := range list(tr, fa, p, q, not, next, and, or, until, rel) {
			if k := takes[n]; k <= parts && (n != not || f[at-1].Op == api.FProp) {
				f[at] = n
				fill(at+1, parts+1-k)
			}
		}
	}
	fill(0, 0)
}

// nest: k releases, each the right part of the one ahead of it, the left ones propositions; the last one's right part is tail.
func nest(k, props int, tail ...api.Node) []api.Node {
	var f []api.Node
	for i := range k {
		f = append(f, of(api.FProp, i%props))
	}
	return append(append(f, tail...), slices.Repeat(list(rel), k)...)
}

// joined: those formulas, with the operation between them.
func joined(op api.Node, l ...[]api.Node) []api.Node {
	f := slices.Clone(l[0])
	for _, g := range l[1:] {
		f = append(append(f, g...), op)
	}
	return f
}

// wanted: what Of(f) is by the chapter's words: the covers that are found stand in a list, which is gone through from its beginning on.
func wanted(f []api.Node) (api.Auto, api.Errno) {
	switch {
	case !nnf.Is(f):
		return api.Auto{}, api.ErrForm
	case len(f) > 2*24+2:
		return api.Auto{}, api.ErrLong
	case len(ltl.Untils(f)) > 16:
		return api.Auto{}, api.ErrMany
	}
	a := api.Auto{Sets: len(ltl.Untils(f))}
	var found []cover.Cover
	numbers := func(parts []int) []int {
		var l []int
		for _, c := range cover.Of(f, parts) {
			at := slices.IndexFunc(found, func(o cover.Cover) bool {
				return o.Need == c.Need && o.Ban == c.Ban && slices.Equal(o.Next, c.Next) && slices.Equal(o.Now, c.Now)
			})
			if at < 0 {
				at = len(found)
				found = append(found, c)
			}
			l = append(l, at)
			if len(found) > 256 {
				break
			}
		}
		return l
	}
	a.Init = numbers([]int{len(f) - 1})
	for n := 0; n < len(found); n++ {
		if len(found) > 256 {
			return api.Auto{}, api.ErrMany
		}
		c := found[n]
		a.Nodes = append(a.Nodes, api.ANode{Need: c.Need, Ban: c.Ban, In: cover.Meets(f, c), To: numbers(c.Next)})
	}
	return a, api.OK
}

// check: Of(f) is what the chapter's words say, with all nodes reached, none of which asks for a proposition and against it (P29.3).
func check(t *testing.T, f []api.Node) (api.Auto, api.Errno) {
	t.Helper()
	a, why := tableau.Of(f)
	if want, whyWant := wanted(f); why != whyWant || !auto.Same(a, want) {
		t.Fatalf("Of(%v) = %v, %v, not %v, %v", f, a, why, want, whyWant)
	}
	if auto.Check(a) != api.OK {
		t.Fatalf("Of(%v) = %v: %v", f, a, auto.Check(a))
	}
	met := make([]bool, len(a.Nodes))
	for left := slices.Clone(a.Init); len(left) > 0; left = left[1:] {
		if !met[left[0]] {
			met[left[0]] = true
			left = append(left, a.Nodes[left[0]].To...)
		}
	}
	if slices.Contains(met, false) || slices.ContainsFunc(a.Nodes, func(n api.ANode) bool { return n.Need&n.Ban != 0 }) {
		t.Fatalf("Of(%v) = %v", f, a)
	}
	return a, why
}

// P29.1
func TestTold(t *testing.T) {
	rest := func(n int) api.ANode { return api.ANode{To: []int{n}} } // asks for nothing
	for i, x := range []struct {
		f    []api.Node
		want api.Auto
	}{
		{list(p, q, until), api.Auto{Sets: 1, Init: []int{0, 1}, Nodes: []api.ANode{{Need: 2, In: 1, To: []int{2}}, {Need: 1, To: []int{0, 1}}, {In: 1, To: []int{2}}}}},
		{list(tr), api.Auto{Init: []int{0}, Nodes: []api.ANode{rest(1), rest(1)}}},
		{list(fa), api.Auto{}}, {list(p, p, not, and), api.Auto{}}, {list(q, not, q, and), api.Auto{}}, {list(p, fa, until), api.Auto{Sets: 1, Init: []int{0}, Nodes: []api.ANode{{Need: 1, To: []int{0}}}}},
		{list(fa, fa, until), api.Auto{Sets: 1}},
		{list(r), api.Auto{Init: []int{0}, Nodes: []api.ANode{{Need: 128, To: []int{1}}, rest(1)}}},
		{list(r, not), api.Auto{Init: []int{0}, Nodes: []api.ANode{{Ban: 128, To: []int{1}}, rest(1)}}},
		{list(q, p, or), api.Auto{Init: []int{0, 1}, Nodes: []api.ANode{{Need: 2, To: []int{2}}, {Need: 1, To: []int{2}}, rest(2)}}},
		{list(p, q, not, and), api.Auto{Init: []int{0}, Nodes: []api.ANode{{Need: 1, Ban: 2, To: []int{1}}, rest(1)}}},
		{list(p, p, or), api.Auto{Init: []int{0, 1}, Nodes: []api.ANode{{Need: 1, To: []int{2}}, {Need: 1, To: []int{2}}, rest(2)}}},
		{list(p, next), api.Auto{Init: []int{0}, Nodes: []api.ANode{rest(1), {Need: 1, To: []int{2}}, rest(2)}}},
		{list(fa, next), api.Auto{Init: []int{0}, Nodes: []api.ANode{{}}}},
		{list(fa, p, rel), api.Auto{Init: []int{0}, Nodes: []api.ANode{{Need: 1, To: []int{0}}}}},
		{list(p, q, rel), api.Auto{Init: []int{0, 1}, Nodes: []api.ANode{{Need: 3, To: []int{2}}, {Need: 2, To: []int{0, 1}}, rest(2)}}},
		{list(tr, p, until), api.Auto{Sets: 1, Init: []int{0, 1}, Nodes: []api.ANode{{Need: 1, In: 1, To: []int{2}}, {To: []int{0, 1}}, {In: 1, To: []int{2}}}}},
		{list(fa, tr, p, until, rel), api.Auto{Sets: 1, Init: []int{0, 1}, Nodes: []api.ANode{{Need: 1, In: 1, To: []int{0, 1}}, {To: []int{0, 1}}}}},
		{list(p, q, until, q, p, until, and), api.Auto{Sets: 2, Init: []int{0, 1, 2, 3}, Nodes: []api.ANode{
			{Need: 3, In: 3, To: []int{4}}, {Need: 2, In: 1, To: []int{5, 6}}, {Need: 1, In: 2, To: []int{7, 8}}, {Need: 3, To: []int{9, 10, 11, 12}},
			{In: 3, To: []int{4}}, {Need: 1, In: 3, To: []int{4}}, {Need: 2, In: 1, To: []int{5, 6}}, {Need: 2, In: 3, To: []int{4}}, {Need: 1, In: 2, To: []int{7, 8}},
			{Need: 3, In: 3, To: []int{4}}, {Need: 2, In: 1, To: []int{5, 6}}, {Need: 1, In: 2, To: []int{7, 8}}, {Need: 3, To: []int{9, 10, 11, 12}},
		}}},
	} {
		if a, why := check(t, x.f); why != api.OK || !auto.Same(a, x.want) {
			t.Errorf("%d: Of(%v) = %v, %v, not %v", i, x.f, a, why, x.want)
		}
	}
}

// P29.1: what is refused, and why.
func TestRefused(t *testing.T) {
	untils := func(k int) []api.Node { // each the right part of the one ahead, the left ones false
		return append(append(slices.Repeat(list(fa), k), q), slices.Repeat(list(until), k)...)
	}
	deep := func(size int) []api.Node { return append(list(p), slices.Repeat(list(next), size-1)...) }
	for i, x := range []struct {
		f     []api.Node
		why   api.Errno
		nodes int
	}{
		{nil, api.ErrForm, 0}, {list(not), api.ErrForm, 0}, {list(p, q), api.ErrForm, 0}, {list(p, of(api.FFin)), api.ErrForm, 0}, {list(p, of(api.FGlob)), api.ErrForm, 0},
		{list(p, q, of(api.FImp)), api.ErrForm, 0}, {list(p, q, and, not), api.ErrForm, 0}, {list(tr, not), api.ErrForm, 0}, {list(p, not, not), api.ErrForm, 0},
		{list(of(api.FProp, 8)), api.ErrForm, 0}, {list(of(api.FProp, -1)), api.ErrForm, 0}, {list(of(0)), api.ErrForm, 0}, {list(p, of(13)), api.ErrForm, 0}, {list(of(math.MinInt, math.MaxInt)), api.ErrForm, 0},
		{deep(49), api.OK, 50}, {deep(50), api.OK, 51}, {deep(51), api.ErrLong, 0}, {deep(1 << 17), api.ErrLong, 0},
		{append(deep(51), not), api.ErrForm, 0}, {append(deep(1<<17), until), api.ErrForm, 0},
		{untils(1), api.OK, 2}, {untils(15), api.OK, 2}, {untils(16), api.OK, 2}, {untils(17), api.ErrMany, 0}, {untils(24), api.ErrMany, 0},
		{untils(25), api.ErrLong, 0}, {append(untils(24), next), api.ErrMany, 0}, {append(untils(24), next, next), api.ErrLong, 0}, {append(untils(17), not), api.ErrForm, 0}, {append(untils(25), not), api.ErrForm, 0},
		{append(untils(17), fa, and), api.ErrMany, 0}, {append(untils(16), fa, and), api.OK, 0},
	} {
		a, why := tableau.Of(x.f)
		if why != x.why || len(a.Nodes) != x.nodes || why != api.OK && (a.Sets != 0 || a.Init != nil || a.Nodes != nil) {
			t.Errorf("%d: %v, %d nodes, not %v, %d", i, why, len(a.Nodes), x.why, x.nodes)
		}
	}
	if a, _ := check(t, untils(16)); a.Sets != 16 || a.Nodes[0].In != 1<<16-1 {
		t.Error(a)
	}
}

// P29.1: the greatest automata that may be, and those that are greater by one node, or by far.
func TestMany(t *testing.T) {
	var some [][]api.Node // some time proposition i
	for i := range 9 {
		some = append(some, list(tr, of(api.FProp, i%8), until))
	}
	ever := func(f []api.Node) []api.Node { return append(append(list(fa), f...), rel) }
	for i, x := range []struct {
		f     []api.Node
		nodes int // 0: too many
	}{
		{nest(7, 2, p), 255}, {append(nest(7, 2, p), next), 256}, {append(nest(7, 2, p), next, next), 0}, {nest(8, 2, p), 0}, {append(nest(8, 2, p), next), 0},
		{ever(joined(and, some[:7]...)), 128}, {ever(joined(and, some[:8]...)), 256}, {ever(joined(and, some...)), 0}, {append(ever(joined(and, some[:8]...)), next), 0},
		{joined(and, some[:4]...), 97}, {joined(and, some[:5]...), 0}, {append(joined(and, some[:5]...), next), 0},
		{joined(until, nest(8, 2, tr), list(fa)), 256}, {joined(until, nest(9, 2, tr), list(fa)), 0}, {joined(and, list(q, not), nest(12, 2, tr)), 0},
	} {
		a, why := check(t, x.f)
		if x.nodes > 0 && (why != api.OK || len(a.Nodes) != x.nodes) || x.nodes == 0 && why != api.ErrMany {
			t.Errorf("%d: %v, %d nodes, not %d", i, why, len(a.Nodes), x.nodes)
		}
	}
}

// P29.1, G7: formulas whose covers could not be listed are told to have too many, and those of which no way comes to anything have none.
func TestCrowd(t *testing.T) {
	for k := 9; k <= 24; k++ {
		for props := 1; props <= 8; props++ {
			f := nest(k, props, tr)
			for _, g := range [][]api.Node{f, append(slices.Clone(f), next), joined(or, list(fa), f), joined(until, f, list(fa)), joined(and, list(p), f)} {
				if a, why := tableau.Of(g); len(g) <= 50 && (why != api.ErrMany || a.Nodes != nil) {
					t.Errorf("%v: %v", g, why)
				}
			}
		}
	}
	three := append(nest(7, 2, p), next)
	if a, why := tableau.Of(joined(and, three, three, three)); why != api.ErrMany || a.Nodes != nil {
		t.Error("three beside one another", why)
	}
	for _, tail := range [][]api.Node{{q, q, not, and}, {fa}, {q, not, q, and}, {fa, q, until, q, not, and}} {
		if a, why := tableau.Of(nest(20, 1, tail...)); why != api.OK || len(a.Nodes) != 0 || len(a.Init) != 0 {
			t.Errorf("%v: %v, %v", tail, why, a)
		}
	}
	// The left parts of the releases can't be true: each has one way alone.
	if a, why := tableau.Of(append(append(slices.Repeat(list(fa), 24), p), slices.Repeat(list(rel), 24)...)); why != api.OK || len(a.Nodes) != 1 {
		t.Error(why, a)
	}
	if a, why := tableau.Of(joined(and, append(append(slices.Repeat(list(p), 20), q), slices.Repeat(list(rel), 20)...), list(p, not))); why != api.ErrMany || a.Nodes != nil {
		t.Error("from the second place on they can", why)
	}
}

// P29.1, P29.3: short formulas, all of them, and long ones.
func TestWanted(t *testing.T) {
	for size := 1; size <= 5; size++ {
		formulas(size, func(f []api.Node) { check(t, f) })
	}
	c, told := chance(29), map[api.Errno]int{}
	for i := range 6000 {
		pairs := list(and, or, until, rel)
		if i%3 == 0 {
			pairs = list(and, rel, rel, or)
		}
		_, why := check(t, grown(&c, 1+i%31, 1+c.below(8), pairs...))
		told[why]++
	}
	if told[api.OK] < 1000 || told[api.ErrMany] < 300 {
		t.Error(told)
	}
}

// words: all words of at most so many places over two propositions.
func words(most int, tell func(w api.Word)) {
	sets := make([]uint64, most)
	var fill func(at int)
	fill = func(at int) {
		for stem := range at {
			tell(api.Word{Stem: sets[:stem], Loop: sets[stem:at]})
		}
		for set := range uint64(4) {
			if at < most {
				sets[at] = set
				fill(at + 1)
			}
		}
	}
	fill(0)
}

// P29.2
func TestWords(t *testing.T) {
	for size := 1; size <= 4; size++ {
		formulas(size, func(f []api.Node) {
			a, why := tableau.Of(f)
			if why != api.OK {
				t.Fatal(f, why)
			}
			words(3, func(w api.Word) {
				if auto.Takes(a, w) != word.Holds(f, w) {
					t.Fatalf("%v over %v: %v", f, w, word.Holds(f, w))
				}
			})
		})
	}
	c, made := chance(30), 0
	for i := range 4000 {
		f := grown(&c, 5+i%20, 1+c.below(4), and, or, until, rel)
		a, why := tableau.Of(f)
		if why != api.OK {
			continue
		}
		made++
		for range 12 {
			var w api.Word
			for range c.below(4) {
				w.Stem = append(w.Stem, uint64(c.below(16)))
			}
			for range 1 + c.below(4) {
				w.Loop = append(w.Loop, uint64(c.below(16)))
			}
			if auto.Takes(a, w) != word.Holds(f, w) {
				t.Fatalf("%v over %v: %v", f, w, word.Holds(f, w))
			}
		}
	}
	if made < 2000 {
		t.Error(made)
	}
}

// P29.2: of formulas that may be, and of their negations.
func TestForms(t *testing.T) {
	for _, f := range [][]api.Node{
		list(p, q, until), list(p, of(api.FGlob), of(api.FFin)), list(p, q, of(api.FFin), of(api.FImp), of(api.FGlob)), list(p, next, q, next, or, not), list(p, of(api.FFin), of(api.FGlob), q, of(api.FFin), of(api.FGlob), of(api.FImp)),
		append(list(p), slices.Repeat(list(of(api.FGlob)), 14)...), append(list(p), slices.Repeat(list(of(api.FFin)), 14)...), append(list(p), slices.Repeat(list(not), 23)...),
	} {
		a, why := check(t, nnf.Of(f))
		b, whyNot := check(t, nnf.Dual(f))
		if why != api.OK || whyNot != api.OK {
			t.Fatal(f, why, whyNot)
		}
		words(4, func(w api.Word) {
			if auto.Takes(a, w) != word.Holds(f, w) || auto.Takes(b, w) == word.Holds(f, w) {
				t.Fatalf("%v over %v: %v", f, w, word.Holds(f, w))
			}
		})
	}
}

// What is answered is new, and what stands behind a list's length plays no part.
func TestShared(t *testing.T) {
	whole := list(p, q, until, fa, r, rel, and, fa, fa, q, p, until, rel, rel, or, of(99), and)
	before := slices.Clone(whole)
	f := whole[:15]
	want, whyWant := wanted(f)
	lists := func(a api.Auto) [][]int {
		l := [][]int{a.Init}
		for _, n := range a.Nodes {
			l = append(l, n.To)
		}
		return l
	}
	for i := range lists(want) {
		a, why := tableau.Of(f)
		if why != whyWant || !auto.Same(a, want) {
			t.Fatal(a, want)
		}
		l := lists(a)[i]
		_ = append(l, 77, 77, 77, 77, 77, 77)
		for k := range l {
			l[k] = 77
		}
		for k, own := range lists(a) {
			if k != i && !slices.Equal(own, lists(want)[k]) {
				t.Fatal(i, k, a, want)
			}
		}
	}
	if !slices.Equal(whole, before) {
		t.Fatal(whole)
	}
}
