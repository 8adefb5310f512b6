package simp_test

import (
	"math"
	"slices"
	"testing"

	"lariat/api"
	"lariat/ltl"
	"lariat/nnf"
	"lariat/simp"
)

// of: a node; n is its N, if it has one.
func of(op int, n ...int) api.Node {
	return api.Node{Op: op, N: append(n, 0)[0]}
}

// list: a formula.
func list(l ...api.Node) []api.Node {
	return l
}

// join: lists, one behind the other.
func join(l ...[]api.Node) []api.Node {
	return slices.Concat(l...)
}

// The nodes that the told cases are made of.
var (
	tr, fa, p, q, r = of(api.FTrue), of(api.FFalse), of(api.FProp, 0), of(api.FProp, 1), of(api.FProp, 7)
	not, next       = of(api.FNot), of(api.FNext)
	and, or         = of(api.FAnd), of(api.FOr)
	until, rel      = of(api.FUntil), of(api.FRel)
)

// takes: of each operation how many parts it takes.
var takes = map[int]int{
	api.FTrue: 0, api.FFalse: 0, api.FProp: 0, api.FNot: 1, api.FNext: 1, api.FFin: 1, api.FGlob: 1,
	api.FAnd: 2, api.FOr: 2, api.FImp: 2, api.FUntil: 2, api.FRel: 2,
}

// isNormal: is f a formula, however long, in negation normal form?
func isNormal(f []api.Node) bool {
	parts := 0
	for at, n := range f {
		k, is := takes[n.Op]
		switch {
		case !is || k > parts, n.Op == api.FProp && (n.N < 0 || n.N > 7):
			return false
		case n.Op == api.FNot && f[at-1].Op != api.FProp, n.Op == api.FImp, n.Op == api.FFin, n.Op == api.FGlob:
			return false
		}
		parts += 1 - k
	}
	return parts == 1
}

// split: the own parts of the formula f as lists, the left one first.
func split(f []api.Node) [][]api.Node {
	var own [][]api.Node
	end := len(f) - 1
	for range takes[f[end].Op] {
		begin, parts := end, 0
		for parts != 1 {
			begin--
			parts += 1 - takes[f[begin].Op]
		}
		own = append([][]api.Node{f[begin:end]}, own...)
		end = begin
	}
	return own
}

// last: the operation of the formula f.
func last(f []api.Node) int {
	return f[len(f)-1].Op
}

// is: is f that constant?
func is(f []api.Node, op int) bool {
	return len(f) == 1 && f[0].Op == op
}

// opposed: are a and b literals, each the other's other one?
func opposed(a, b []api.Node) bool {
	one := func(x, y []api.Node) bool {
		return is(x, api.FProp) && slices.Equal(y, list(x[0], not))
	}
	return one(a, b) || one(b, a)
}

// hasOwn: is f of that operation, and one of its parts the same as x?
func hasOwn(f []api.Node, op int, x []api.Node) bool {
	if last(f) != op {
		return false
	}
	own := split(f)
	return slices.Equal(own[0], x) || slices.Equal(own[1], x)
}

// rule: when it fits, and what it leaves, of parts a and b.
type rule struct {
	fits   func(a, b []api.Node) bool
	leaves func(a, b []api.Node) []api.Node
}

func left(a, _ []api.Node) []api.Node  { return a }
func right(_, b []api.Node) []api.Node { return b }

// joint: the rules of FAnd, or of FOr, in the chapter's order.
func joint(op, zero, one, other api.Node) []rule {
	nought := func(_, _ []api.Node) []api.Node { return list(zero) }
	return []rule{
		{func(a, b []api.Node) bool { return is(a, zero.Op) || is(b, zero.Op) }, nought},
		{func(a, b []api.Node) bool { return is(a, one.Op) }, right},
		{func(a, b []api.Node) bool { return is(b, one.Op) }, left},
		{slices.Equal[[]api.Node], left},
		{opposed, nought},
		{func(a, b []api.Node) bool { return hasOwn(b, other.Op, a) }, left},
		{func(a, b []api.Node) bool { return hasOwn(a, other.Op, b) }, right},
		{func(a, b []api.Node) bool { return last(a) == api.FNext && last(b) == api.FNext }, func(a, b []api.Node) []api.Node {
			return join(a[:len(a)-1], b[:len(b)-1], list(op, next))
		}},
	}
}

// lasting: the rules of FUntil, or of FRel, in the chapter's order.
func lasting(op, useless api.Node) []rule {
	return []rule{
		{func(a, b []api.Node) bool { return is(b, api.FTrue) || is(b, api.FFalse) }, right},
		{func(a, b []api.Node) bool { return is(a, useless.Op) }, right},
		{slices.Equal[[]api.Node], right},
		{func(a, b []api.Node) bool { return last(b) == op.Op && slices.Equal(split(b)[0], a) }, right},
	}
}

// rules: the chapter's table; FNext has its part as a and as b.
var rules = map[int][]rule{
	api.FAnd:   joint(and, fa, tr, or),
	api.FOr:    joint(or, tr, fa, and),
	api.FNext:  {{func(a, _ []api.Node) bool { return is(a, api.FTrue) || is(a, api.FFalse) }, left}},
	api.FUntil: lasting(until, fa),
	api.FRel:   lasting(rel, tr),
}

// once: what the chapter's table makes of f, which is in negation normal form; used counts the rules by operation and number.
func once(f []api.Node, used map[[2]int]int) []api.Node {
	own := split(f)
	for i, x := range own {
		own[i] = once(x, used)
	}
	op := last(f)
	for i, x := range rules[op] {
		a, b := own[0], own[len(own)-1]
		if x.fits(a, b) {
			used[[2]int{op, i}]++
			return slices.Clone(x.leaves(a, b))
		}
	}
	n := f[len(f)-1]
	if op != api.FProp {
		n.N = 0
	}
	return append(join(own...), n)
}

// word: sets of propositions; behind the last one those from back on come again, for ever.
type word struct {
	sets []uint64
	back int
}

// words: words of p and q of one to three sets.
func words() []word {
	var l []word
	for count := 1; count <= 3; count++ {
		for number := range 1 << (2 * count) {
			sets := make([]uint64, count)
			for i := range sets {
				sets[i] = uint64(number >> (2 * i) & 3)
			}
			for back := range count {
				l = append(l, word{sets, back})
			}
		}
	}
	return l
}

// holds: at which places w satisfies f, which is in negation normal form: until and release are followed from each place on as long as the word is.
func holds(f []api.Node, w word) []bool {
	var own [][]bool
	for _, l := range split(f) {
		own = append(own, holds(l, w))
	}
	count := len(w.sets)
	at := func(i int) int {
		for i >= count {
			i -= count - w.back
		}
		return i
	}
	n := f[len(f)-1]
	is := make([]bool, count)
	for i := range is {
		switch n.Op {
		case api.FTrue:
			is[i] = true
		case api.FProp:
			is[i] = w.sets[i]>>n.N&1 == 1
		case api.FNot:
			is[i] = !own[0][i]
		case api.FAnd:
			is[i] = own[0][i] && own[1][i]
		case api.FOr:
			is[i] = own[0][i] || own[1][i]
		case api.FNext:
			is[i] = own[0][at(i+1)]
		case api.FUntil:
			for k := i; k < i+2*count && !is[i]; k++ {
				is[i] = own[1][at(k)]
				if !own[0][at(k)] {
					break
				}
			}
		case api.FRel:
			is[i] = true
			for k := i; k < i+2*count && is[i]; k++ {
				is[i] = own[1][at(k)]
				if own[0][at(k)] {
					break
				}
			}
		}
	}
	return is
}

// lists: all lists of so many of these nodes.
func lists(count int, of []api.Node, tell func(f []api.Node)) {
	f := make([]api.Node, count)
	var fill func(at int)
	fill = func(at int) {
		if at == count {
			tell(f)
			return
		}
		for _, n := range of {
			f[at] = n
			fill(at + 1)
		}
	}
	fill(0)
}

// chance: numbers that look like chance, the same each time.
type chance uint64

func (c *chance) below(n int) int {
	*c = *c*6364136223846793005 + 1442695040888963407
	return int(*c>>33) % n
}

// pool: formulas in negation normal form, each made of those ahead of it, so that the same parts come again and again; N of some nodes but FProp is not 0. None has more than most nodes.
func pool(c *chance, count, most int) [][]api.Node {
	l := [][]api.Node{{p}, {q}, {p, of(api.FNot, 3)}, {q, not}, {of(api.FTrue, -2)}, {fa}, {r}}
	for len(l) < count {
		a, b := l[c.below(len(l))], l[c.below(len(l))]
		n := of([]int{api.FAnd, api.FOr, api.FUntil, api.FRel, api.FNext}[c.below(5)], c.below(3)*c.below(2))
		if n.Op == api.FNext {
			a = nil
		}
		if f := join(a, b, list(n)); len(f) <= most {
			l = append(l, f)
		}
	}
	return l
}

// check: both calls tell of f what the chapter's words say, and what follows of them (P26.1, P26.2, P26.4).
func check(t *testing.T, f []api.Node, used map[[2]int]int) {
	t.Helper()
	before := slices.Clone(f)
	gotOnce, gotOf := simp.Once(f), simp.Of(f)
	if !slices.Equal(f, before) {
		t.Fatalf("%v was changed: %v", before, f)
	}
	if !isNormal(f) {
		if len(gotOnce) != 0 || len(gotOf) != 0 {
			t.Fatalf("%v may not be: %v, %v", f, gotOnce, gotOf)
		}
		return
	}
	want := once(f, used)
	if !slices.Equal(gotOnce, want) {
		t.Fatalf("Once(%v) = %v, not %v", f, gotOnce, want)
	}
	checkLess(t, f, gotOnce)
	for {
		again := once(want, used)
		if slices.Equal(again, want) {
			break
		}
		want = again
	}
	if !slices.Equal(gotOf, want) {
		t.Fatalf("Of(%v) = %v, not %v", f, gotOf, want)
	}
	checkLess(t, f, gotOf)
	if again := simp.Of(gotOf); !slices.Equal(again, gotOf) {
		t.Fatalf("Of(%v) = %v", gotOf, again)
	}
}

// checkLess: less, made of f, is no greater than f (P26.4).
func checkLess(t *testing.T, f, less []api.Node) {
	t.Helper()
	if !nnf.Is(less) || len(less) > len(f) || ltl.Props(less)&^ltl.Props(f) != 0 || ltl.Next(less) && !ltl.Next(f) {
		t.Fatalf("%v, of %v, is not smaller", less, f)
	}
}

// checkWords: what is made of f, which is of p and q alone, is satisfied by the same words (P26.3).
func checkWords(t *testing.T, f []api.Node, all []word) {
	t.Helper()
	a, b := simp.Once(f), simp.Of(f)
	for _, w := range all {
		if want := holds(f, w); !slices.Equal(holds(a, w), want) || !slices.Equal(holds(b, w), want) {
			t.Fatalf("%v, %v and %v of %v", f, a, b, w)
		}
	}
}

// P26.1, P26.2
func TestTold(t *testing.T) {
	until3, next3 := of(api.FUntil, 3), of(api.FNext, -3)
	for i, x := range []struct{ f, once, of []api.Node }{
		{list(p, tr, and), list(p), list(p)},
		{list(p, p, not, or), list(tr), list(tr)},
		{list(p, next, q, next, and), list(p, q, and, next), list(p, q, and, next)},
		{list(p, p, q, until, until), list(p, q, until), list(p, q, until)},
		{list(p), list(p), list(p)}, {list(p, not), list(p, not), list(p, not)}, {list(of(api.FTrue, 5)), list(tr), list(tr)}, {list(of(api.FFalse, 5)), list(fa), list(fa)},
		{list(p, of(api.FNot, 2), q, until3), list(p, not, q, until), list(p, not, q, until)},
		{list(p, q, and), list(p, q, and), list(p, q, and)}, {list(p, q, rel, next3), list(p, q, rel, next), list(p, q, rel, next)},

		{list(fa, p, and), list(fa), list(fa)}, {list(p, fa, and), list(fa), list(fa)}, {list(tr, fa, and), list(fa), list(fa)}, {list(fa, tr, and), list(fa), list(fa)},
		{list(tr, p, and), list(p), list(p)}, {list(tr, tr, and), list(tr), list(tr)}, {list(p, p, and), list(p), list(p)}, {list(fa, fa, and), list(fa), list(fa)},
		{list(p, p, not, and), list(fa), list(fa)}, {list(p, not, p, and), list(fa), list(fa)}, {list(p, q, not, and), list(p, q, not, and), list(p, q, not, and)},
		{list(p, p, q, or, and), list(p), list(p)}, {list(p, q, p, or, and), list(p), list(p)}, {list(p, q, or, p, and), list(p), list(p)}, {list(q, p, or, p, and), list(p), list(p)},
		{list(p, q, r, or, and), list(p, q, r, or, and), list(p, q, r, or, and)}, {list(p, p, q, and, and), list(p, p, q, and, and), list(p, p, q, and, and)},

		{list(tr, p, or), list(tr), list(tr)}, {list(p, tr, or), list(tr), list(tr)}, {list(fa, p, or), list(p), list(p)}, {list(p, fa, or), list(p), list(p)}, {list(fa, fa, or), list(fa), list(fa)},
		{list(p, p, or), list(p), list(p)}, {list(p, not, p, or), list(tr), list(tr)}, {list(p, p, q, and, or), list(p), list(p)}, {list(p, q, p, and, or), list(p), list(p)}, {list(p, q, and, p, or), list(p), list(p)}, {list(q, p, and, p, or), list(p), list(p)},
		{list(p, p, q, or, or), list(p, p, q, or, or), list(p, p, q, or, or)}, {list(p, next, q, next, or), list(p, q, or, next), list(p, q, or, next)},

		{list(tr, next), list(tr), list(tr)}, {list(fa, next), list(fa), list(fa)}, {list(fa, next, next), list(fa), list(fa)}, {list(p, next, next), list(p, next, next), list(p, next, next)},

		{list(p, tr, until), list(tr), list(tr)}, {list(p, fa, until), list(fa), list(fa)}, {list(fa, p, until), list(p), list(p)}, {list(tr, p, until), list(tr, p, until), list(tr, p, until)}, {list(p, p, until), list(p), list(p)},
		{list(p, q, p, until, until), list(p, q, p, until, until), list(p, q, p, until, until)}, {list(p, q, until, q, until), list(p, q, until, q, until), list(p, q, until, q, until)}, {list(p, p, q, rel, until), list(p, p, q, rel, until), list(p, p, q, rel, until)},
		{list(p, p, not, until), list(p, p, not, until), list(p, p, not, until)},

		{list(p, tr, rel), list(tr), list(tr)}, {list(p, fa, rel), list(fa), list(fa)}, {list(tr, p, rel), list(p), list(p)}, {list(fa, p, rel), list(fa, p, rel), list(fa, p, rel)}, {list(p, p, rel), list(p), list(p)},
		{list(p, p, q, rel, rel), list(p, q, rel), list(p, q, rel)}, {list(p, q, p, rel, rel), list(p, q, p, rel, rel), list(p, q, p, rel, rel)}, {list(p, p, q, until, rel), list(p, p, q, until, rel), list(p, p, q, until, rel)},

		// What a rule makes is not made smaller again in the same round.
		{list(p, next, p, not, next, and), list(p, p, not, and, next), list(fa)},
		{list(p, next, p, next, and), list(p, next), list(p, next)},
		{list(p, next, next, q, next, next, or), list(p, next, q, next, or, next), list(p, q, or, next, next)},
		{list(p, next, p, q, and, next, or), list(p, p, q, and, or, next), list(p, next)},
		{list(p, next, p, not, next, or, q, until), list(p, p, not, or, next, q, until), list(tr, q, until)},
		{list(p, q, until, next, p, not, next, and, p, and), list(p, q, until, p, not, and, next, p, and), list(p, q, until, p, not, and, next, p, and)},
		// The same but for an N that is not looked at.
		{list(p, q, until3, p, q, until, and), list(p, q, until), list(p, q, until)},
		{list(p, of(api.FNot, 6), p, and), list(fa), list(fa)},
		// Own parts come ahead: theirs are made smaller in the same round.
		{list(p, tr, and, p, fa, or, until), list(p), list(p)}, {list(q, tr, fa, or, and, next, q, next, and), list(q, next), list(q, next)},
	} {
		if got := simp.Once(x.f); !slices.Equal(got, x.once) {
			t.Errorf("%d: Once(%v) = %v, not %v", i, x.f, got, x.once)
		}
		if got := simp.Of(x.f); !slices.Equal(got, x.of) {
			t.Errorf("%d: Of(%v) = %v, not %v", i, x.f, got, x.of)
		}
	}
}

// P26.1, P26.2: of what is not in negation normal form nothing is made.
func TestNone(t *testing.T) {
	for i, f := range [][]api.Node{
		nil, {}, {not}, {p, p}, {p, until}, {p, and, q}, {of(api.FProp, 8)}, {of(api.FProp, -1)}, {of(api.FProp, math.MaxInt), not}, {of(0)}, {of(13)}, {of(math.MinInt)}, {p, of(0)}, {tr, tr},
		{p, not, not}, {tr, not}, {p, q, and, not}, {p, q, of(api.FImp)}, {p, of(api.FFin)}, {p, of(api.FGlob)}, {tr, p, of(api.FGlob), or}, {fa, tr, not, and},
	} {
		if a, b := simp.Once(f), simp.Of(f); len(a) != 0 || len(b) != 0 {
			t.Errorf("%d: %v: %v, %v", i, f, a, b)
		}
	}
}

// P26.1 to P26.4: all short lists.
func TestShort(t *testing.T) {
	used := map[[2]int]int{}
	check(t, nil, used)
	most := list(r, of(api.FProp, 8), of(0), of(13), of(api.FNext, -5), of(api.FUntil, 99), of(api.FNot, 1), of(api.FTrue, math.MinInt))
	for op := 1; op <= 12; op++ {
		most = append(most, of(op))
	}
	for count := range 5 {
		lists(count, most, func(f []api.Node) { check(t, f, used) })
	}
	for _, few := range [][]api.Node{{p, fa, not, next, and, until}, {p, q, next, and, or}, {p, tr, not, or, rel}} {
		for count := range 8 {
			lists(count, few, func(f []api.Node) { check(t, f, used) })
		}
	}
	all := words()
	for count := range 6 {
		lists(count, list(p, q, tr, not, next, and, or, until, rel), func(f []api.Node) {
			if isNormal(f) {
				checkWords(t, f, all)
			}
		})
	}
}

// P26.1 to P26.4: formulas of many nodes, also above MaxForm, whole and spoilt, to which each rule fits often.
func TestGrown(t *testing.T) {
	c := chance(26)
	used := map[[2]int]int{}
	all := words()
	bad := list(of(0), of(13), of(api.FImp), of(api.FFin), of(api.FGlob), of(api.FProp, 8), not, p, q, tr, fa, and, or, until, rel, next)
	for range 100 {
		for i, f := range pool(&c, 120, 70) {
			check(t, f, used)
			if i%8 == 0 && ltl.Props(f) < 4 {
				checkWords(t, f, all)
			}
			f = slices.Clone(f)
			f[c.below(len(f))] = bad[c.below(len(bad))]
			check(t, f, used)
			check(t, f[:c.below(len(f))], used)
		}
	}
	for op, l := range rules {
		for i := range l {
			if used[[2]int{op, i}] < 20 {
				t.Errorf("rule %d of operation %d fits %d times", i, op, used[[2]int{op, i}])
			}
		}
	}
}

// P26.2: as many rounds as a chain is long; a part that is made behind others that stay.
func TestRounds(t *testing.T) {
	on := func(n api.Node, count int) []api.Node {
		return append(list(n), slices.Repeat(list(next), count)...)
	}
	for _, count := range []int{1, 2, 30, 3000} {
		f := join(on(p, count), on(q, count), list(and))
		if got := simp.Once(f); !slices.Equal(got, join(on(p, count-1), on(q, count-1), list(and, next))) {
			t.Error(count, len(got))
		}
		if got := simp.Of(f); !slices.Equal(got, join(list(p, q, and), slices.Repeat(list(next), count))) {
			t.Error(count, len(got))
		}
		f = join(list(r), on(p, count), on(p, count+1), list(or, until))
		if got := simp.Of(f); !slices.Equal(got, join(list(r, p, p, next, or), slices.Repeat(list(next), count), list(until))) {
			t.Error(count, len(got))
		}
	}
}

// P26.1, P26.2, G7: formulas far above MaxForm, deep on the left and on the right.
func TestDeep(t *testing.T) {
	const most = 1 << 16
	rep := func(l ...api.Node) []api.Node { return slices.Repeat(l, most) }
	big := append(list(p), rep(q, p, or, until)...)
	for i, x := range []struct{ f, once, of []api.Node }{
		{append(list(fa), rep(next)...), list(fa), list(fa)},
		{append(list(p), rep(next)...), append(list(p), rep(next)...), append(list(p), rep(next)...)},
		{join(rep(tr), list(p), rep(and)), list(p), list(p)},
		{join(rep(tr), big, rep(and)), big, big},
		{join(big, rep(fa, or)), big, big},
		{join(rep(p), list(q), rep(until)), list(p, q, until), list(p, q, until)},
		{join(list(q), rep(p, until)), append(list(q), rep(p, until)...), append(list(q), rep(p, until)...)},
		{join(big, big, list(or)), big, big},
		{join(big, list(r), big, list(and, or)), big, big},
		{join(big, list(next, r, or), big, list(next, and)), join(big, list(next)), join(big, list(next))},
		{join(rep(p, not), list(q), rep(rel)), list(p, not, q, rel), list(p, not, q, rel)},
	} {
		if got := simp.Once(x.f); !slices.Equal(got, x.once) {
			t.Error(i, "once", len(got))
		}
		if got := simp.Of(x.f); !slices.Equal(got, x.of) {
			t.Error(i, "of", len(got))
		}
	}
}

// What lies behind a list's length plays no part, and answers share nothing.
func TestApart(t *testing.T) {
	whole := list(p, next, q, next, and, not, of(99))
	before := slices.Clone(whole)
	f := whole[:5]
	for _, call := range []func([]api.Node) []api.Node{simp.Once, simp.Of} {
		first, second := call(f), call(f)
		for at := range first[:cap(first)] {
			first[:cap(first)][at] = of(77, 7)
		}
		if !slices.Equal(second, list(p, q, and, next)) || !slices.Equal(whole, before) {
			t.Error(second, whole)
		}
		if l := call(whole[:0]); len(l) != 0 {
			t.Error(l)
		}
	}
}
