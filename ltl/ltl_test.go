package ltl_test

import (
	"fmt"
	"math"
	"slices"
	"testing"

	"lariat/api"
	"lariat/ltl"
)

// of: a node; n is its N, if it has one.
func of(op int, n ...int) api.Node {
	return api.Node{Op: op, N: append(n, 0)[0]}
}

// list: a formula.
func list(l ...api.Node) []api.Node {
	return l
}

// p, q: propositions.
func p() api.Node { return of(api.FProp, 0) }
func q() api.Node { return of(api.FProp, 1) }

// takes: of each operation how many parts it takes.
func takes() map[int]int {
	return map[int]int{
		api.FTrue: 0, api.FFalse: 0, api.FProp: 0, api.FNot: 1, api.FNext: 1, api.FFin: 1, api.FGlob: 1,
		api.FAnd: 2, api.FOr: 2, api.FImp: 2, api.FUntil: 2, api.FRel: 2,
	}
}

// refused: why f is no formula, as the chapter's words say, however long it is.
func refused(f []api.Node) api.Errno {
	if len(f) == 0 {
		return api.ErrShort
	}
	parts := 0
	for _, n := range f {
		k, is := takes()[n.Op]
		if !is {
			return api.ErrForm
		}
		if k > parts {
			return api.ErrShort
		}
		if n.Op == api.FProp && (n.N < 0 || n.N > 7) {
			return api.ErrRange
		}
		parts += 1 - k
	}
	if parts > 1 {
		return api.ErrLong
	}
	return api.OK
}

// tree: of the part that ends there the places at which its own parts end, the left one first, and where it begins: found by going back.
func tree(f []api.Node, at int) (kids []int, begin int) {
	begin = at
	for range takes()[f[at].Op] {
		kids = append([]int{begin - 1}, kids...)
		_, begin = tree(f, begin-1)
	}
	return kids, begin
}

// nodes: one of each sort that the chapter names: each operation, with N that is not looked at too, propositions in and out of their range, and what is no operation.
func nodes() []api.Node {
	l := list(of(api.FProp, 7), of(api.FProp, 8), of(api.FProp, -1), of(0), of(13), of(api.FNext, -5), of(api.FUntil, 99))
	for op := range 13 {
		if op > 0 {
			l = append(l, of(op))
		}
	}
	return l
}

// lists: all lists of so many of these nodes.
func lists(count int, of []api.Node, tell func(f []api.Node)) {
	f := make([]api.Node, count)
	var fill func(at int)
	fill = func(at int) {
		if at == count {
			tell(f)
			return
		}
		for _, n := range of {
			f[at] = n
			fill(at + 1)
		}
	}
	fill(0)
}

// chance: numbers that look like chance, the same each time.
type chance uint64

func (c *chance) below(n int) int {
	*c = *c*6364136223846793005 + 1442695040888963407
	return int(*c>>33) % n
}

// grown: a formula of so many nodes.
func grown(c *chance, size int) []api.Node {
	n := c.below(9)
	switch {
	case size == 1:
		return list([]api.Node{of(api.FTrue, n), of(api.FFalse, -n), of(api.FProp, n%8)}[c.below(3)])
	case size == 2 || n < 3:
		return append(grown(c, size-1), of([]int{api.FNot, api.FNext, api.FFin, api.FGlob}[c.below(4)], n))
	}
	left := 1 + c.below(size-2)
	return append(append(grown(c, left), grown(c, size-1-left)...), of([]int{api.FAnd, api.FOr, api.FImp, api.FUntil, api.FRel}[c.below(5)], -n))
}

// check: every call tells of f what the chapter's words say.
func check(t *testing.T, f []api.Node) {
	t.Helper()
	before := slices.Clone(f)
	why := refused(f)
	want := why
	if len(f) > api.MaxForm {
		want = api.ErrLong
	}
	if got := ltl.Check(f); got != want {
		t.Fatalf("Check(%v) = %v, not %v", f, got, want)
	}
	if why != api.OK {
		checkNone(t, f)
	} else {
		checkParts(t, f)
		checkWhole(t, f)
	}
	if !slices.Equal(f, before) {
		t.Fatalf("%v was changed: %v", before, f)
	}
}

// checkNone: of f, which is no formula, no call tells anything.
func checkNone(t *testing.T, f []api.Node) {
	t.Helper()
	if len(ltl.Spans(f)) != 0 || ltl.Props(f) != 0 || ltl.Next(f) || len(ltl.Not(f)) != 0 || len(ltl.Untils(f)) != 0 {
		t.Fatalf("%v, of %d nodes, is none", f[:min(len(f), 60)], len(f))
	}
	for at := -1; at <= min(len(f), 40); at++ {
		if a, b := ltl.Kids(f, at); a != -1 || b != -1 {
			t.Fatalf("Kids(%v, %d) = %d, %d, of none", f[:min(len(f), 60)], at, a, b)
		}
	}
}

// checkParts: Spans and Kids of the formula f, and what follows of them (P23.3).
func checkParts(t *testing.T, f []api.Node) {
	t.Helper()
	spans := ltl.Spans(f)
	if len(spans) != len(f) || spans[len(f)-1] != 0 {
		t.Fatalf("Spans(%v) = %v", f, spans)
	}
	for at := range f {
		kids, begin := tree(f, at)
		want := append(kids, -1, -1)
		a, b := ltl.Kids(f, at)
		if spans[at] != begin || begin > at || a != want[0] || b != want[1] {
			t.Fatalf("%v at %d: begins at %d, %d, %d, not %d, %v", f, at, spans[at], a, b, begin, want)
		}
		if len(kids) > 0 && max(a, b) != at-1 || a >= at || b >= at {
			t.Fatalf("Kids(%v, %d) = %d, %d", f, at, a, b)
		}
	}
	for _, at := range []int{-1, len(f), len(f) + 1, math.MaxInt, math.MinInt} {
		if a, b := ltl.Kids(f, at); a != -1 || b != -1 {
			t.Fatalf("Kids(%v, %d) = %d, %d", f, at, a, b)
		}
	}
}

// checkWhole: what is told of the formula f as a whole, and what follows of it (P23.4).
func checkWhole(t *testing.T, f []api.Node) {
	t.Helper()
	set, next := uint64(0), false
	var untils []int
	for at, n := range f {
		switch n.Op {
		case api.FProp:
			set |= 1 << n.N
		case api.FNext:
			next = true
		case api.FUntil:
			untils = append(untils, at)
		}
	}
	if ltl.Props(f) != set || ltl.Next(f) != next || !slices.Equal(ltl.Untils(f), untils) {
		t.Fatalf("%v: %b, %v, %v, not %b, %v, %v", f, ltl.Props(f), ltl.Next(f), ltl.Untils(f), set, next, untils)
	}
	not := ltl.Not(f)
	if !slices.Equal(not, append(slices.Clone(f), of(api.FNot))) {
		t.Fatalf("Not(%v) = %v", f, not)
	}
	if refused(not) != api.OK || ltl.Props(not) != set || ltl.Next(not) != next || !slices.Equal(ltl.Untils(not), untils) {
		t.Fatalf("Not(%v): %b, %v, %v", f, ltl.Props(not), ltl.Next(not), ltl.Untils(not))
	}
}

// P23.1
func TestCheck(t *testing.T) {
	long := slices.Repeat(list(of(api.FNot)), api.MaxForm)
	for i, x := range []struct {
		f    []api.Node
		want api.Errno
	}{
		{list(p(), q(), of(api.FUntil)), api.OK}, {list(p()), api.OK}, {list(of(api.FTrue, 99)), api.OK}, {list(of(api.FFalse, -99), of(api.FGlob, 8)), api.OK}, {list(of(api.FProp, 7)), api.OK},
		{nil, api.ErrShort}, {[]api.Node{}, api.ErrShort}, {list(p(), of(api.FUntil)), api.ErrShort}, {list(of(api.FNot)), api.ErrShort}, {list(of(api.FImp), p(), p()), api.ErrShort}, {list(p(), of(api.FNext), of(api.FRel)), api.ErrShort},
		{list(p(), p()), api.ErrLong}, {list(p(), p(), of(api.FNot)), api.ErrLong}, {list(p(), p(), of(api.FAnd), p()), api.ErrLong},
		{list(of(0)), api.ErrForm}, {list(of(13)), api.ErrForm}, {list(of(-1)), api.ErrForm}, {list(of(math.MaxInt)), api.ErrForm}, {list(of(math.MinInt)), api.ErrForm}, {list(p(), of(0)), api.ErrForm},
		{list(of(api.FProp, 8)), api.ErrRange}, {list(of(api.FProp, -1)), api.ErrRange}, {list(of(api.FProp, math.MaxInt)), api.ErrRange}, {list(of(api.FProp, math.MinInt)), api.ErrRange},
		{list(of(api.FProp, 8), of(0)), api.ErrRange}, {list(of(0), of(api.FProp, 8)), api.ErrForm}, {list(of(api.FOr), of(0)), api.ErrShort}, {list(of(api.FProp, 8), of(api.FOr)), api.ErrRange}, {list(p(), p(), of(api.FProp, 8)), api.ErrRange}, {list(p(), p(), of(99)), api.ErrForm},
		{append(list(p()), long[:23]...), api.OK}, {append(list(p()), long...), api.ErrLong}, {long, api.ErrShort}, {append(slices.Clone(long), of(0)), api.ErrLong}, {make([]api.Node, 25), api.ErrLong}, {make([]api.Node, 24), api.ErrForm},
	} {
		if got := ltl.Check(x.f); got != x.want {
			t.Errorf("%d: Check(%v) = %v, not %v", i, x.f, got, x.want)
		}
	}
}

// P23.2
func TestTold(t *testing.T) {
	f := list(p(), q(), of(api.FUntil))
	if l := ltl.Spans(f); !slices.Equal(l, []int{0, 1, 0}) {
		t.Error(l)
	}
	if a, b := ltl.Kids(f, 2); a != 0 || b != 1 {
		t.Error(a, b)
	}
	f = list(of(api.FProp, 5), of(api.FNext), of(api.FProp, 2), of(api.FFin), of(api.FProp, 5), of(api.FUntil, 3), of(api.FTrue), of(api.FUntil), of(api.FImp, 6))
	if l := ltl.Spans(f); !slices.Equal(l, []int{0, 0, 2, 2, 4, 2, 6, 2, 0}) {
		t.Error(l)
	}
	if ltl.Props(f) != 36 || !ltl.Next(f) || !slices.Equal(ltl.Untils(f), []int{5, 7}) {
		t.Error(ltl.Props(f), ltl.Next(f), ltl.Untils(f))
	}
	for at, want := range [][2]int{{-1, -1}, {0, -1}, {-1, -1}, {2, -1}, {-1, -1}, {3, 4}, {-1, -1}, {5, 6}, {1, 7}} {
		if a, b := ltl.Kids(f, at); [2]int{a, b} != want {
			t.Error(at, a, b)
		}
	}
	if l := ltl.Not(f); len(l) != 10 || l[9] != of(api.FNot) || l[8] != of(api.FImp, 6) {
		t.Error(l)
	}
}

// P23.1 to P23.4: all short lists.
func TestShort(t *testing.T) {
	check(t, nil)
	for count := range 5 {
		lists(count, nodes(), func(f []api.Node) { check(t, f) })
	}
	few := list(p(), q(), of(api.FTrue), of(api.FNot), of(api.FNext), of(api.FUntil), of(api.FRel))
	for count := range 7 {
		lists(count, few, func(f []api.Node) { check(t, f) })
	}
}

// P23.1 to P23.4: formulas of many nodes, also above MaxForm, whole and spoilt.
func TestGrown(t *testing.T) {
	c := chance(23)
	all := nodes()
	for i := range 20000 {
		f := grown(&c, 1+i%60)
		check(t, f)
		at := c.below(len(f))
		switch c.below(4) {
		case 0:
			f[at] = all[c.below(len(all))]
		case 1:
			f = slices.Delete(f, at, at+1)
		case 2:
			f = slices.Insert(f, at, all[c.below(len(all))])
		default:
			f = f[:at]
		}
		check(t, f)
	}
}

// P23.2, G7: formulas far above MaxForm, deep on the left and on the right.
func TestDeep(t *testing.T) {
	const most = 1 << 17
	on := append(list(q()), slices.Repeat(list(of(api.FNext)), most)...)
	left := append(list(p()), slices.Repeat(list(q(), of(api.FUntil)), most)...)
	right := append(slices.Repeat(list(q()), most+1), slices.Repeat(list(of(api.FUntil)), most)...)
	for i, f := range [][]api.Node{on, left, right} {
		last := len(f) - 1
		if ltl.Check(f) != api.ErrLong || len(ltl.Spans(f)) != last+1 || ltl.Spans(f)[last] != 0 || len(ltl.Not(f)) != last+2 {
			t.Error(i, "whole")
		}
		if ltl.Next(f) != (i == 0) || ltl.Props(f) != []uint64{2, 3, 2}[i] || len(ltl.Untils(f)) != []int{0, most, most}[i] {
			t.Error(i, ltl.Next(f), ltl.Props(f), len(ltl.Untils(f)))
		}
		a, b := ltl.Kids(f, last)
		if want := [][2]int{{last - 1, -1}, {last - 2, last - 1}, {0, last - 1}}[i]; [2]int{a, b} != want {
			t.Error(i, a, b)
		}
		if i > 0 { // a chain of parts that take one part is a formula wherever it ends
			checkNone(t, f[:last:last])
		}
		checkNone(t, f[1:])
		checkNone(t, append(slices.Clone(f), of(api.FAnd)))
	}
}

// What is answered is new, and what stands behind a list's length plays no part.
func TestShared(t *testing.T) {
	whole := list(p(), q(), of(api.FUntil), of(99), of(api.FUntil))
	before := slices.Clone(whole)
	f := whole[:3]
	for range 2 {
		check(t, f)
		not, spans, untils := ltl.Not(f), ltl.Spans(f), ltl.Untils(f)
		for i := range not {
			not[i] = of(api.FNext)
		}
		for i := range spans {
			spans[i] = 9
		}
		untils[0] = 9
		_, _, _ = append(not, p()), append(spans, 9), append(untils, 9)
		if !slices.Equal(whole, before) {
			t.Fatal(whole)
		}
	}
	if fmt.Sprint(ltl.Not(f), ltl.Not(f)) != "[{3 0} {3 1} {9 0} {4 0}] [{3 0} {3 1} {9 0} {4 0}]" {
		t.Error(ltl.Not(f))
	}
}
