package word_test

import (
	"math"
	"slices"
	"testing"

	"lariat/api"
	"lariat/word"
)

// of: a node; n is its N, if it has one.
func of(op int, n ...int) api.Node {
	return api.Node{Op: op, N: append(n, 0)[0]}
}

// list: a formula.
func list(l ...api.Node) []api.Node {
	return l
}

// The nodes that the told cases are made of.
var (
	tr, fa, p, q, r = of(api.FTrue, 3), of(api.FFalse, -3), of(api.FProp, 0), of(api.FProp, 1), of(api.FProp, 7)
	not, and, or    = of(api.FNot), of(api.FAnd), of(api.FOr)
	imp, next       = of(api.FImp), of(api.FNext)
	until, rel      = of(api.FUntil), of(api.FRel)
	fin, glob       = of(api.FFin), of(api.FGlob)
	all             = list(tr, fa, p, q, not, and, or, imp, next, until, rel, fin, glob)
)

// takes is how many parts the operation takes; -1, if it is none.
func takes(op int) int {
	switch op {
	case api.FTrue, api.FFalse, api.FProp:
		return 0
	case api.FNot, api.FNext, api.FFin, api.FGlob:
		return 1
	case api.FAnd, api.FOr, api.FImp, api.FUntil, api.FRel:
		return 2
	}
	return -1
}

// isFormula: is f a formula, however long?
func isFormula(f []api.Node) bool {
	parts := 0
	for _, n := range f {
		k := takes(n.Op)
		if k < 0 || k > parts || n.Op == api.FProp && (n.N < 0 || n.N > 7) {
			return false
		}
		parts += 1 - k
	}
	return parts == 1
}

// kids: the parts of node at, the left one first.
func kids(f []api.Node, at int) []int {
	var own []int
	end := at - 1
	for range takes(f[at].Op) {
		own = append([]int{end}, own...)
		for parts := 0; parts != 1; end-- {
			parts += 1 - takes(f[end].Op)
		}
	}
	return own
}

// satisfied: what Truth(f, w) is by DOC's words. From place k on stand, in their order, the places that w has from there on; one round more tells nothing new.
func satisfied(f []api.Node, w api.Word) [][]bool {
	size := len(w.Stem) + len(w.Loop)
	sets := far(w, size)
	truth := make([][]bool, len(f))
	place := func(i int) int {
		if i < size {
			return i
		}
		return len(w.Stem) + (i-len(w.Stem))%len(w.Loop)
	}
	for at, n := range f {
		own := append(kids(f, at), 0, 0)
		a, b := truth[own[0]], truth[own[1]]
		truth[at] = make([]bool, size)
		for k := range size {
			truth[at][k] = here(n, k, size, place, sets, a, b)
		}
	}
	return truth
}

// here: does place k satisfy the formula that ends with n and whose parts are satisfied at a and b?
func here(n api.Node, k, size int, place func(int) int, sets []uint64, a, b []bool) bool {
	switch n.Op {
	case api.FTrue:
		return true
	case api.FProp:
		return sets[k]&(1<<n.N) != 0
	case api.FNot:
		return !a[k]
	case api.FAnd:
		return a[k] && b[k]
	case api.FOr:
		return a[k] || b[k]
	case api.FImp:
		return b[k] || !a[k]
	case api.FNext:
		return a[place(k+1)]
	case api.FFalse:
		return false
	}
	some, every, left := false, true, true // left: all places ahead satisfied a (of a release: none did)
	for i := k; i < k+size; i++ {
		at := place(i)
		switch n.Op {
		case api.FUntil:
			some = some || left && b[at]
			left = left && a[at]
		case api.FRel:
			every = every && (b[at] || !left)
			left = left && !a[at]
		default:
			some, every = some || a[at], every && a[at]
		}
	}
	return some && (n.Op == api.FUntil || n.Op == api.FFin) || every && (n.Op == api.FRel || n.Op == api.FGlob)
}

// check: Truth and Holds of f and w are what DOC's words say, and what follows of them (P27.5).
func check(t *testing.T, f []api.Node, w api.Word) {
	t.Helper()
	want := satisfied(f, w)
	got := word.Truth(f, w)
	if !slices.EqualFunc(got, want, slices.Equal) {
		t.Fatalf("Truth(%v, %v) = %v, not %v", f, w, got, want)
	}
	for k, is := range want[len(f)-1] {
		if k == 0 && word.Holds(f, w) != is || word.Holds(f, word.Shift(w, k)) != is {
			t.Fatalf("Holds(%v, %v) from %d on is not %v", f, w, k, is)
		}
	}
}

// formulas: all formulas of so many nodes.
func formulas(size int, of []api.Node, tell func(f []api.Node)) {
	f := make([]api.Node, size)
	var fill func(at, parts int)
	fill = func(at, parts int) {
		if at == size {
			if parts == 1 {
				tell(f)
			}
			return
		}
		for _, n := range of {
			if k := takes(n.Op); k <= parts {
				f[at] = n
				fill(at+1, parts+1-k)
			}
		}
	}
	fill(0, 0)
}

// chance: numbers that look like chance, the same each time.
type chance uint64

func (c *chance) below(n int) int {
	*c = *c*6364136223846793005 + 1442695040888963407
	return int(*c>>33) % n
}

// grown: a formula of so many nodes.
func grown(c *chance, size int) []api.Node {
	n := c.below(9)
	switch {
	case size == 1:
		return list([]api.Node{of(api.FTrue, n), of(api.FFalse, -n), of(api.FProp, n%8), of(api.FProp, n%2), of(api.FProp, n%2)}[c.below(5)])
	case size == 2 || n < 3:
		return append(grown(c, size-1), of([]int{api.FNot, api.FNext, api.FFin, api.FGlob}[c.below(4)], n))
	}
	left := 1 + c.below(size-2)
	return append(append(grown(c, left), grown(c, size-1-left)...), of([]int{api.FAnd, api.FOr, api.FImp, api.FUntil, api.FRel}[c.below(5)], -n))
}

// some: a word of at most so many places.
func some(c *chance, places int) api.Word {
	var w api.Word
	for range c.below(places) {
		w.Stem = append(w.Stem, uint64(c.below(4)|c.below(1<<20)<<2))
	}
	for range 1 + c.below(places-len(w.Stem)) {
		w.Loop = append(w.Loop, uint64(c.below(4)|c.below(1<<20)<<2))
	}
	return w
}

// P27.2
func TestTold(t *testing.T) {
	w := over(2, 1, 128, 2, 3, 0) // p, r, then q, p and q, none
	for i, x := range []struct {
		f    []api.Node
		want string
	}{
		{list(tr), "11111"}, {list(fa), "00000"}, {list(p), "10010"}, {list(q), "00110"}, {list(r), "01000"}, {list(of(api.FProp, 2)), "00000"},
		{list(p, not), "01101"}, {list(p, q, and), "00010"}, {list(p, q, or), "10110"}, {list(p, q, imp), "01111"}, {list(q, p, imp), "11011"},
		{list(q, next), "01101"}, {list(p, next), "00100"}, {list(r, next), "10000"}, {list(r, next, next), "00000"}, {list(p, next, next), "01001"},
		{list(p, q, until), "00110"}, {list(p, r, until), "11000"}, {list(q, p, until), "10110"}, {list(q, r, until), "01000"}, {list(tr, p, until), "11111"}, {list(tr, fa, until), "00000"},
		{list(p, q, rel), "00110"}, {list(q, p, rel), "00010"}, {list(fa, tr, rel), "11111"}, {list(r, p, q, or, r, or, rel), "11000"}, {list(r, p, r, or, rel), "11000"}, {list(r, q, p, or, rel), "00000"},
		{list(r, fin), "11000"}, {list(q, fin), "11111"}, {list(r, not, glob), "00111"}, {list(p, glob), "00000"}, {list(q, fin, glob), "11111"}, {list(q, glob, fin), "00000"}, {list(r, not, glob, fin), "11111"},
	} {
		rows := word.Truth(x.f, w)
		got := ""
		for _, is := range rows[len(x.f)-1] {
			got += map[bool]string{true: "1", false: "0"}[is]
		}
		if got != x.want {
			t.Errorf("%d: Truth(%v) ends with %s, not %s", i, x.f, got, x.want)
		}
	}
	for _, row := range word.Truth(list(p, fin, glob), over(0, 1, 0))[1:] {
		if !slices.Equal(row, []bool{true, true}) {
			t.Error(row)
		}
	}
}

// P27.2, P27.5: all short formulas over all short words.
func TestShort(t *testing.T) {
	for size := 1; size <= 4; size++ {
		formulas(size, all, func(f []api.Node) {
			words(1, 2, 4, func(w api.Word) { check(t, f, w) })
		})
	}
	formulas(3, list(p, q, not, and, next, until, rel, fin, glob), func(f []api.Node) {
		words(2, 3, 4, func(w api.Word) { check(t, f, w) })
	})
}

// P27.2, P27.5: long formulas over long words, and over their normal forms.
func TestGrown(t *testing.T) {
	c := chance(27)
	for i := range 6000 {
		f, w := grown(&c, 1+i%40), some(&c, 9)
		check(t, f, w)
		norm := word.Norm(w)
		if word.Holds(f, norm) != word.Holds(f, w) || !word.Same(norm, w) || word.Check(norm) != api.OK {
			t.Fatalf("%v over %v, and over %v", f, w, norm)
		}
	}
}

// P27.4: each until is the least list of truths that follows the rule, each release the greatest.
func TestFixpoints(t *testing.T) {
	words(2, 3, 4, func(w api.Word) {
		size := len(w.Stem) + len(w.Loop)
		for _, f := range [][]api.Node{list(p, q, until), list(p, q, rel)} {
			truth := word.Truth(f, w)
			least, greatest := follow(f[2].Op, w, truth[0], truth[1])
			want := least
			if f[2].Op == api.FRel {
				want = greatest
			}
			for k := range size {
				if truth[2][k] != (want>>k&1 == 1) {
					t.Fatalf("%v over %v: %v, not %b", f, w, truth[2], want)
				}
			}
		}
	})
}

// follow: of all lists of truths that follow the rule of op at each place of w, what they have in common, and what any has.
func follow(op int, w api.Word, a, b []bool) (int, int) {
	size := len(w.Stem) + len(w.Loop)
	least, greatest := 1<<size-1, 0
	for set := range 1 << size {
		follows := true
		for k := range size {
			after := k + 1
			if after == size {
				after = len(w.Stem)
			}
			is, next := set>>k&1 == 1, set>>after&1 == 1
			if op == api.FUntil {
				follows = follows && is == (b[k] || a[k] && next)
			} else {
				follows = follows && is == (b[k] && (a[k] || next))
			}
		}
		if follows {
			least, greatest = least&set, greatest|set
		}
	}
	return least, greatest
}

// P27.2: nothing is told of words that may not be, and of lists that are no formulas.
func TestNothing(t *testing.T) {
	for why, w := range wrong() {
		for _, f := range [][]api.Node{list(tr), list(p, glob, not), list(p, not, q, until), nil, list(of(0))} {
			if len(word.Truth(f, w)) != 0 || word.Holds(f, w) {
				t.Error(why, f)
			}
		}
	}
	w := over(1, 3, 3)
	raw := append(slices.Clone(all), of(0), of(13), of(-1), of(math.MinInt), of(api.FProp, 8), of(api.FProp, -1), of(api.FProp, math.MaxInt), of(api.FProp, 64))
	f := make([]api.Node, 3)
	for size := range 4 {
		var fill func(at int)
		fill = func(at int) {
			if at == size {
				if l := f[:size]; !isFormula(l) && (len(word.Truth(l, w)) != 0 || word.Holds(l, w)) {
					t.Fatalf("%v is no formula", l)
				}
				return
			}
			for _, n := range raw {
				f[at] = n
				fill(at + 1)
			}
		}
		fill(0)
	}
	c := chance(28)
	for i := range 2000 {
		f := grown(&c, 2+i%60)
		f[c.below(len(f))] = raw[c.below(len(raw))]
		if is := isFormula(f); is != (len(word.Truth(f, w)) == len(f)) || !is && word.Holds(f, w) {
			t.Fatalf("%v: %v", f, is)
		}
	}
}

// P27.2, G7: formulas far above MaxForm, deep on the left and on the right; words as long as may be.
func TestDeep(t *testing.T) {
	const most = 1 << 17
	on := append(list(q), slices.Repeat(list(next), most)...)
	left := append(list(p), slices.Repeat(list(q, until), most)...)
	right := append(slices.Repeat(list(q), most+1), slices.Repeat(list(rel), most)...)
	nots := append(list(p), slices.Repeat(list(not), most)...)
	for i, f := range [][]api.Node{on, left, right, nots} {
		w := over(1, 1, 2, 0)
		truth := word.Truth(f, w)
		if len(truth) != len(f) || truth[len(f)-1][0] != word.Holds(f, w) {
			t.Fatal(i, "whole")
		}
		if want := [][]bool{{false, true, false}, {true, true, false}, {false, true, false}, {true, false, false}}[i]; !slices.Equal(truth[len(f)-1], want) {
			t.Error(i, truth[len(f)-1])
		}
		if word.Holds(f, over(0, 0, 0, 2)) != (i == 0 && (most%3 == 2)) {
			t.Error(i, "over the other one")
		}
	}
	sets := make([]uint64, api.MaxNodes)
	sets[api.MaxNodes-1] = 1
	for stem := range api.MaxNodes {
		if stem%9999 != 0 && stem != api.MaxNodes-1 {
			continue
		}
		w := over(stem, sets...)
		if !word.Holds(list(p, fin, glob), w) || word.Holds(list(p, glob, fin), w) != (stem == api.MaxNodes-1) || !word.Holds(list(p, not, p, until), w) {
			t.Error(stem)
		}
	}
	const some = 2000
	chain := append(list(p), slices.Repeat(list(next), some)...)
	if w := over(api.MaxNodes-some-1, sets...); word.Holds(chain, w) || !word.Holds(chain, word.Shift(w, api.MaxNodes-some-1)) || word.Holds(chain[:some], word.Shift(w, api.MaxNodes-some-1)) {
		t.Error("a long chain over a long word")
	}
}

// What is answered is new, and what stands behind a list's length plays no part.
func TestTruthShared(t *testing.T) {
	whole, sets := list(p, q, until, not, of(99)), []uint64{1, 2, 3, 9}
	before, early := slices.Clone(whole), slices.Clone(sets)
	f, w := whole[:4], api.Word{Stem: sets[:1], Loop: sets[1:2]}
	want := satisfied(f, w)
	for range 2 {
		rows := word.Truth(f, w)
		if !slices.EqualFunc(rows, want, slices.Equal) || word.Holds(f, w) {
			t.Fatal(rows)
		}
		for i := range rows {
			fresh := word.Truth(f, w)
			others := slices.Delete(slices.Clone(fresh), i, i+1)
			told := slices.Collect(func(yield func(bool) bool) {
				for _, row := range others {
					for _, is := range row {
						if !yield(is) {
							return
						}
					}
				}
			})
			for k := range fresh[i] {
				fresh[i][k] = !fresh[i][k]
			}
			_ = append(fresh[i], true, true, true, true)
			at := 0
			for _, row := range others {
				for _, is := range row {
					if is != told[at] {
						t.Fatal("rows share something")
					}
					at++
				}
			}
		}
	}
	if !slices.Equal(whole, before) || !slices.Equal(sets, early) {
		t.Error(whole, sets)
	}
}
