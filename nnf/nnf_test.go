package nnf_test

import (
	"math"
	"slices"
	"testing"

	"lariat/api"
	"lariat/ltl"
	"lariat/nnf"
)

// of: a node; n is its N, if it has one.
func of(op int, n ...int) api.Node {
	return api.Node{Op: op, N: append(n, 0)[0]}
}

// list: a formula.
func list(l ...api.Node) []api.Node {
	return l
}

// The nodes that the told cases are made of.
var (
	tr, fa, p, q    = of(api.FTrue), of(api.FFalse), of(api.FProp, 0), of(api.FProp, 1)
	not, next       = of(api.FNot), of(api.FNext)
	fin, glob       = of(api.FFin), of(api.FGlob)
	and, or, imp    = of(api.FAnd), of(api.FOr), of(api.FImp)
	until, rel, far = of(api.FUntil), of(api.FRel), of(api.FProp, 7)
)

// takes: of each operation how many parts it takes.
var takes = map[int]int{
	api.FTrue: 0, api.FFalse: 0, api.FProp: 0, api.FNot: 1, api.FNext: 1, api.FFin: 1, api.FGlob: 1,
	api.FAnd: 2, api.FOr: 2, api.FImp: 2, api.FUntil: 2, api.FRel: 2,
}

// isForm: is f a formula, however long?
func isForm(f []api.Node) bool {
	parts := 0
	for _, n := range f {
		k, is := takes[n.Op]
		if !is || k > parts || n.Op == api.FProp && (n.N < 0 || n.N > 7) {
			return false
		}
		parts += 1 - k
	}
	return parts == 1
}

// split: the own parts of the formula f as lists, the left one first.
func split(f []api.Node) [][]api.Node {
	var own [][]api.Node
	end := len(f) - 1
	for range takes[f[end].Op] {
		begin, parts := end, 0
		for parts != 1 {
			begin--
			parts += 1 - takes[f[begin].Op]
		}
		own = append([][]api.Node{f[begin:end]}, own...)
		end = begin
	}
	return own
}

// What stands in a row of the chapter's table: a node, or the positive or the negative form of a part.
type place struct {
	node     api.Node
	part     int // 1 a, 2 b
	negative bool
}

// row: of an operation its positive and its negative form.
type row struct {
	positive, negative []place
}

// rows: the chapter's table; a' and b' are a and b here, a* and b* are A and B.
var rows = map[int]row{
	api.FTrue: both("t", "f"), api.FFalse: both("f", "t"), api.FNot: both("A", "a"),
	api.FAnd: both("ab&", "AB|"), api.FOr: both("ab|", "AB&"), api.FImp: both("Ab|", "aB&"),
	api.FNext: both("aX", "AX"), api.FUntil: both("abU", "ABR"), api.FRel: both("abR", "ABU"),
	api.FFin: both("taU", "fAR"), api.FGlob: both("faR", "tAU"),
}

// both: a row of the table.
func both(positive, negative string) row {
	return row{places(positive), places(negative)}
}

// places: a form of the table, letter by letter.
func places(s string) []place {
	letters := map[rune]place{
		't': {node: tr}, 'f': {node: fa}, '&': {node: and}, '|': {node: or}, 'X': {node: next}, 'U': {node: until}, 'R': {node: rel},
		'a': {part: 1}, 'b': {part: 2}, 'A': {part: 1, negative: true}, 'B': {part: 2, negative: true},
	}
	var l []place
	for _, c := range s {
		l = append(l, letters[c])
	}
	return l
}

// form: the positive or the negative form of the formula f, as the chapter's table says.
func form(f []api.Node, negative bool) []api.Node {
	last := f[len(f)-1]
	if last.Op == api.FProp {
		if negative {
			return list(last, not)
		}
		return list(last)
	}
	r := rows[last.Op]
	l := r.positive
	if negative {
		l = r.negative
	}
	own := split(f)
	var made []api.Node
	for _, x := range l {
		if x.part == 0 {
			made = append(made, x.node)
			continue
		}
		made = append(made, form(own[x.part-1], x.negative)...)
	}
	return made
}

// isNormal: has the formula f no other nodes than a negation normal form may have?
func isNormal(f []api.Node) bool {
	for at, n := range f {
		switch n.Op {
		case api.FImp, api.FFin, api.FGlob:
			return false
		case api.FNot:
			if f[at-1].Op != api.FProp {
				return false
			}
		}
	}
	return true
}

// bare: f, each N but those of FProp 0.
func bare(f []api.Node) []api.Node {
	l := slices.Clone(f)
	for at := range l {
		if l[at].Op != api.FProp {
			l[at].N = 0
		}
	}
	return l
}

// word: sets of propositions; behind the last one those from back on come again, for ever.
type word struct {
	sets []uint64
	back int
}

// words: words of p and q of one to three sets.
func words() []word {
	var l []word
	for count := 1; count <= 3; count++ {
		for number := range 1 << (2 * count) {
			sets := make([]uint64, count)
			for i := range sets {
				sets[i] = uint64(number >> (2 * i) & 3)
			}
			for back := range count {
				l = append(l, word{sets, back})
			}
		}
	}
	return l
}

// holds: at which places w satisfies the formula f: until and release are followed from each place on as long as the word is.
func holds(f []api.Node, w word) []bool {
	var own [][]bool
	for _, l := range split(f) {
		own = append(own, holds(l, w))
	}
	count := len(w.sets)
	at := func(i int) int {
		for i >= count {
			i -= count - w.back
		}
		return i
	}
	last := f[len(f)-1]
	is := make([]bool, count)
	for i := range is {
		switch last.Op {
		case api.FTrue:
			is[i] = true
		case api.FProp:
			is[i] = w.sets[i]>>last.N&1 == 1
		case api.FNot:
			is[i] = !own[0][i]
		case api.FAnd:
			is[i] = own[0][i] && own[1][i]
		case api.FOr:
			is[i] = own[0][i] || own[1][i]
		case api.FImp:
			is[i] = !own[0][i] || own[1][i]
		case api.FNext:
			is[i] = own[0][at(i+1)]
		case api.FUntil:
			for k := i; k < i+2*count && !is[i]; k++ {
				is[i] = own[1][at(k)]
				if !own[0][at(k)] {
					break
				}
			}
		case api.FRel:
			is[i] = true
			for k := i; k < i+2*count && is[i]; k++ {
				is[i] = own[1][at(k)]
				if own[0][at(k)] {
					break
				}
			}
		case api.FFin:
			for k := i; k < i+2*count; k++ {
				is[i] = is[i] || own[0][at(k)]
			}
		case api.FGlob:
			is[i] = true
			for k := i; k < i+2*count; k++ {
				is[i] = is[i] && own[0][at(k)]
			}
		}
	}
	return is
}

// nodes: one of each sort that the chapters name: each operation, with N that is not looked at too, propositions in and out of their range, and what is no operation.
func nodes() []api.Node {
	l := list(far, of(api.FProp, 8), of(api.FProp, -1), of(0), of(13), of(api.FNext, -5), of(api.FUntil, 99), of(api.FNot, 1), of(api.FTrue, math.MinInt))
	for op := 1; op <= 12; op++ {
		l = append(l, of(op))
	}
	return l
}

// lists: all lists of so many of these nodes.
func lists(count int, of []api.Node, tell func(f []api.Node)) {
	f := make([]api.Node, count)
	var fill func(at int)
	fill = func(at int) {
		if at == count {
			tell(f)
			return
		}
		for _, n := range of {
			f[at] = n
			fill(at + 1)
		}
	}
	fill(0)
}

// chance: numbers that look like chance, the same each time.
type chance uint64

func (c *chance) below(n int) int {
	*c = *c*6364136223846793005 + 1442695040888963407
	return int(*c>>33) % n
}

// grown: a formula of so many nodes, of propositions below props.
func grown(c *chance, size, props int) []api.Node {
	n := c.below(9)
	switch {
	case size == 1:
		return list([]api.Node{of(api.FTrue, n), of(api.FFalse, -n), of(api.FProp, n%props), of(api.FProp, (n+1)%props)}[c.below(4)])
	case size == 2 || n < 3:
		return append(grown(c, size-1, props), of([]int{api.FNot, api.FNext, api.FFin, api.FGlob, api.FNot}[c.below(5)], n))
	}
	left := 1 + c.below(size-2)
	return append(append(grown(c, left, props), grown(c, size-1-left, props)...), of([]int{api.FAnd, api.FOr, api.FImp, api.FUntil, api.FRel}[c.below(5)], -n))
}

// check: every call tells of f what the chapter's words say, and what follows of them (P25.1, P25.2, P25.4).
func check(t *testing.T, f []api.Node) {
	t.Helper()
	before := slices.Clone(f)
	normal, dual, is := nnf.Of(f), nnf.Dual(f), nnf.Is(f)
	if !slices.Equal(f, before) {
		t.Fatalf("%v was changed: %v", before, f)
	}
	if !isForm(f) {
		if len(normal) != 0 || len(dual) != 0 || is {
			t.Fatalf("%v is none: %v, %v, %v", f, normal, dual, is)
		}
		return
	}
	if want := form(f, false); !slices.Equal(normal, want) {
		t.Fatalf("Of(%v) = %v, not %v", f, normal, want)
	}
	if want := form(f, true); !slices.Equal(dual, want) {
		t.Fatalf("Dual(%v) = %v, not %v", f, dual, want)
	}
	if is != isNormal(f) || is != slices.Equal(normal, bare(f)) {
		t.Fatalf("Is(%v) = %v", f, is)
	}
	if !nnf.Is(normal) || !nnf.Is(dual) || len(normal) > 2*len(f) || !slices.Equal(nnf.Of(normal), normal) || !slices.Equal(nnf.Dual(dual), normal) {
		t.Fatalf("%v: %v, %v do not stay", f, normal, dual)
	}
}

// checkWords: f, of p and q alone, and its forms are satisfied by the words by which they are to be (P25.3).
func checkWords(t *testing.T, f []api.Node, all []word) {
	t.Helper()
	normal, dual := nnf.Of(f), nnf.Dual(f)
	for _, w := range all {
		is := holds(f, w)
		if !slices.Equal(is, holds(normal, w)) {
			t.Fatalf("%v and %v of %v", f, normal, w)
		}
		for at, no := range holds(dual, w) {
			if is[at] == no {
				t.Fatalf("%v and %v of %v", f, dual, w)
			}
		}
	}
}

// P25.1
func TestForms(t *testing.T) {
	for i, x := range []struct{ f, positive, negative []api.Node }{
		{list(tr), list(tr), list(fa)},
		{list(fa), list(fa), list(tr)},
		{list(p), list(p), list(p, not)},
		{list(far), list(far), list(far, not)},
		{list(p, not), list(p, not), list(p)},
		{list(tr, not), list(fa), list(tr)},
		{list(p, not, not), list(p), list(p, not)},
		{list(p, not, not, not), list(p, not), list(p)},
		{list(p, q, and), list(p, q, and), list(p, not, q, not, or)},
		{list(p, q, or), list(p, q, or), list(p, not, q, not, and)},
		{list(p, q, imp), list(p, not, q, or), list(p, q, not, and)},
		{list(p, next), list(p, next), list(p, not, next)},
		{list(p, q, until), list(p, q, until), list(p, not, q, not, rel)},
		{list(p, q, rel), list(p, q, rel), list(p, not, q, not, until)},
		{list(p, fin), list(tr, p, until), list(fa, p, not, rel)},
		{list(p, glob), list(fa, p, rel), list(tr, p, not, until)},
		{list(p, glob, not), list(tr, p, not, until), list(fa, p, rel)},
		{list(p, fin, glob), list(fa, tr, p, until, rel), list(tr, fa, p, not, rel, until)},
		{list(p, glob, fin, not), list(fa, tr, p, not, until, rel), list(tr, fa, p, rel, until)},
		{list(p, fin, q, glob, imp), list(fa, p, not, rel, fa, q, rel, or), list(tr, p, until, tr, q, not, until, and)},
		{list(p, q, imp, q, imp), list(p, q, not, and, q, or), list(p, not, q, or, q, not, and)},
		{list(p, q, imp, fin), list(tr, p, not, q, or, until), list(fa, p, q, not, and, rel)},
		{list(p, fin, q, until), list(tr, p, until, q, until), list(fa, p, not, rel, q, not, rel)},
		{list(p, fin, q, and, glob), list(fa, tr, p, until, q, and, rel), list(tr, fa, p, not, rel, q, not, or, until)},
		{list(of(api.FTrue, 5), of(api.FProp, 3), of(api.FImp, 9), of(api.FGlob, -4)), list(fa, fa, of(api.FProp, 3), or, rel), list(tr, tr, of(api.FProp, 3), not, and, until)},
	} {
		if got := nnf.Of(x.f); !slices.Equal(got, x.positive) {
			t.Errorf("%d: Of(%v) = %v, not %v", i, x.f, got, x.positive)
		}
		if got := nnf.Dual(x.f); !slices.Equal(got, x.negative) {
			t.Errorf("%d: Dual(%v) = %v, not %v", i, x.f, got, x.negative)
		}
	}
}

// P25.1, P25.2: of what is no formula there is no form.
func TestNone(t *testing.T) {
	for i, f := range [][]api.Node{
		nil, {}, {not}, {p, p}, {p, until}, {p, and, q}, {of(api.FProp, 8)}, {of(api.FProp, -1)}, {of(api.FProp, math.MaxInt), not},
		{of(0)}, {of(13)}, {of(math.MinInt)}, {of(math.MaxInt)}, {p, of(0)}, {p, q, or, q}, {tr, tr}, {fin}, {imp},
	} {
		if a, b := nnf.Of(f), nnf.Dual(f); len(a) != 0 || len(b) != 0 || nnf.Is(f) {
			t.Errorf("%d: %v: %v, %v, %v", i, f, a, b, nnf.Is(f))
		}
	}
}

// P25.2
func TestIs(t *testing.T) {
	for i, x := range []struct {
		f    []api.Node
		want bool
	}{
		{list(tr), true}, {list(fa), true}, {list(p), true}, {list(p, not), true}, {list(of(api.FTrue, 7)), true}, {list(far, of(api.FNot, -7)), true},
		{list(p, not, q, and), true}, {list(p, q, not, or), true}, {list(p, q, not, next, until), true}, {list(p, not, q, not, of(api.FRel, 8)), true}, {list(p, next, next), true},
		{list(p, not, not), false}, {list(tr, not), false}, {list(fa, not), false}, {list(p, q, and, not), false}, {list(p, next, not), false}, {list(tr, p, until, not), false},
		{list(p, q, imp), false}, {list(p, fin), false}, {list(p, glob), false}, {list(p, fin, q, or), false}, {list(q, p, glob, and), false}, {list(p, q, imp, next), false},
	} {
		if got := nnf.Is(x.f); got != x.want {
			t.Errorf("%d: Is(%v) = %v", i, x.f, got)
		}
	}
}

// P25.1 to P25.4: all short lists.
func TestShort(t *testing.T) {
	check(t, nil)
	for count := range 5 {
		lists(count, nodes(), func(f []api.Node) { check(t, f) })
	}
	few := list(p, fa, not, fin, imp, until)
	for count := range 8 {
		lists(count, few, func(f []api.Node) { check(t, f) })
	}
	all := words()
	for count := 1; count < 5; count++ {
		lists(count, list(p, q, tr, fa, not, next, fin, glob, and, or, imp, until, rel), func(f []api.Node) {
			if isForm(f) {
				checkWords(t, f, all)
			}
		})
	}
}

// P25.1 to P25.4: formulas of many nodes, also above MaxForm, whole and spoilt.
func TestGrown(t *testing.T) {
	c := chance(25)
	all := nodes()
	for i := range 20000 {
		f := grown(&c, 1+i%60, 8)
		check(t, f)
		at := c.below(len(f))
		switch c.below(4) {
		case 0:
			f[at] = all[c.below(len(all))]
		case 1:
			f = slices.Delete(f, at, at+1)
		case 2:
			f = slices.Insert(f, at, all[c.below(len(all))])
		default:
			f = f[:at]
		}
		check(t, f)
	}
}

// P25.3: formulas of many nodes.
func TestWords(t *testing.T) {
	c := chance(253)
	all := words()
	for i := range 600 {
		checkWords(t, grown(&c, 1+i%24, 2), all)
	}
}

// P25.1, P25.4, G7: formulas far above MaxForm, deep on the left and on the right, and constants one ahead of another.
func TestDeep(t *testing.T) {
	const most = 1 << 17
	long := func(head []api.Node, l ...api.Node) []api.Node { return append(head, slices.Repeat(l, most)...) }
	rep := func(l ...api.Node) []api.Node { return slices.Repeat(l, most) }
	for i, x := range []struct{ f, positive, negative []api.Node }{
		{long(list(q), not), list(q), list(q, not)},
		{long(list(q), next, not), long(list(q), next), long(list(q, not), next)},
		{long(list(p), q, imp, not), nil, nil},
		{long(list(p), q, rel), long(list(p), q, rel), long(list(p, not), q, not, until)},
		{append(rep(q), long(list(p), until)...), append(rep(q), long(list(p), until)...), append(rep(q, not), long(list(p, not), rel)...)},
		{append(rep(q), long(list(p), imp)...), append(rep(q, not), long(list(p), or)...), nil},
		{long(list(p), fin), append(rep(tr), long(list(p), until)...), append(rep(fa), long(list(p, not), rel)...)},
		{long(list(p), glob, fin), append(rep(tr, fa), long(list(p), rel, until)...), append(rep(fa, tr), long(list(p, not), until, rel)...)},
	} {
		positive, negative := nnf.Of(x.f), nnf.Dual(x.f)
		if len(ltl.Spans(positive)) == 0 || !nnf.Is(positive) || !slices.Equal(nnf.Dual(negative), positive) || len(positive) > 2*len(x.f) {
			t.Error(i, "whole")
		}
		if x.positive != nil && !slices.Equal(positive, x.positive) {
			t.Error(i, "positive")
		}
		if x.negative != nil && !slices.Equal(negative, x.negative) {
			t.Error(i, "negative")
		}
		if nnf.Is(x.f) != (i == 3 || i == 4) {
			t.Error(i, "is")
		}
	}
}

// What lies behind a list's length plays no part, and answers share nothing.
func TestApart(t *testing.T) {
	whole := list(p, q, until, not, not, of(99))
	f := whole[:3]
	for _, call := range []func([]api.Node) []api.Node{nnf.Of, nnf.Dual} {
		first, second := call(f), call(f)
		kept := slices.Clone(second)
		for at := range first[:cap(first)] {
			first[:cap(first)][at] = of(77, 7)
		}
		if !slices.Equal(second, kept) || !slices.Equal(whole, list(p, q, until, not, not, of(99))) {
			t.Error(second, whole)
		}
		if l := call(whole[:0]); len(l) != 0 {
			t.Error(l)
		}
	}
	if !nnf.Is(f) || nnf.Is(whole[:4]) || nnf.Is(whole[:0]) {
		t.Error("is")
	}
}
