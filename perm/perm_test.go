package perm_test

import (
	"math"
	"slices"
	"testing"

	"lariat/api"
	"lariat/perm"
)

// all: the permutations of n things by their words: of all lists of n numbers from 0 to below n, in their order, those in which each number stands once.
func all(n int) [][]int {
	out := [][]int{{}}
	for range n {
		var longer [][]int
		for _, ahead := range out {
			for x := range n {
				if !slices.Contains(ahead, x) {
					longer = append(longer, append(slices.Clone(ahead), x))
				}
			}
		}
		out = longer
	}
	return out
}

// wrong: lists that are no permutation.
func wrong() [][]int {
	return [][]int{
		{1}, {-1}, {math.MaxInt}, {math.MinInt}, {0, 0}, {1, 1}, {1, 2}, {0, 2}, {2, 0}, {0, -1}, {-1, 0}, {0, 1, 1}, {2, 1, 2}, {0, 1, 3}, {1, 2, 3}, {0, 1, 2, math.MinInt},
		{0, 1, 2, 3, 4, 5, 6, 8}, {0, 1, 2, 3, 4, 5, 6, 6}, {8, 1, 2, 3, 4, 5, 6, 7}, {0, 1, 2, 3, 4, 5, 6, 7, 8}, {8, 7, 6, 5, 4, 3, 2, 1, 0}, {0, 1, 2, 3, 4, 5, 6, 7, 0},
		make([]int, 9), make([]int, 1000),
	}
}

// counts: how many things there are no permutations of.
func counts() []int {
	return []int{-1, -2, 9, 10, 64, 1 << 40, math.MaxInt, math.MinInt}
}

func is(t *testing.T, name string, got []int, want ...int) {
	t.Helper()
	if !slices.Equal(got, want) {
		t.Errorf("%s: %v, not %v", name, got, want)
	}
}

// P8.1
func TestCheck(t *testing.T) {
	for n := range 8 {
		for _, p := range all(n) {
			if !perm.Check(p) {
				t.Error(p)
			}
		}
	}
	if !perm.Check(nil) || !perm.Check([]int{}) || !perm.Check([]int{7, 6, 5, 4, 3, 2, 1, 0}) {
		t.Error("none, the longest")
	}
	for _, p := range wrong() {
		if perm.Check(p) {
			t.Error(p)
		}
	}
	// Of all lists of four numbers there are as many as there are permutations.
	found := 0
	for u := range 6 * 6 * 6 * 6 {
		if perm.Check([]int{u%6 - 1, u/6%6 - 1, u/36%6 - 1, u/216 - 1}) {
			found++
		}
	}
	if found != 24 {
		t.Error(found)
	}
}

// P8.1
func TestId(t *testing.T) {
	is(t, "Id", perm.Id(0))
	is(t, "Id", perm.Id(1), 0)
	is(t, "Id", perm.Id(3), 0, 1, 2)
	is(t, "Id", perm.Id(8), 0, 1, 2, 3, 4, 5, 6, 7)
	for _, n := range counts() {
		is(t, "Id of a wrong number", perm.Id(n))
	}
}

// P8.1
func TestMul(t *testing.T) {
	is(t, "the example", perm.Mul([]int{1, 2, 0}, []int{0, 2, 1}), 2, 1, 0)
	is(t, "the other way", perm.Mul([]int{0, 2, 1}, []int{1, 2, 0}), 1, 0, 2)
	is(t, "none", perm.Mul(nil, []int{}))
	is(t, "eight", perm.Mul([]int{1, 2, 3, 4, 5, 6, 7, 0}, []int{7, 6, 5, 4, 3, 2, 1, 0}), 6, 5, 4, 3, 2, 1, 0, 7)
	for n := range 5 {
		for _, a := range all(n) {
			for _, b := range all(n) {
				var want []int
				for i := range n {
					want = append(want, b[a[i]])
				}
				is(t, "Mul", perm.Mul(a, b), want...)
			}
			is(t, "one more", perm.Mul(a, perm.Id(n+1)))
			is(t, "one less", perm.Mul(perm.Id(n+1), a))
		}
	}
	for _, p := range wrong() {
		is(t, "wrong", perm.Mul(p, p))
		is(t, "wrong", perm.Mul(p, perm.Id(len(p))))
		is(t, "wrong", perm.Mul(perm.Id(len(p)), p))
	}
}

// P8.1
func TestInv(t *testing.T) {
	is(t, "Inv", perm.Inv(nil))
	is(t, "Inv", perm.Inv([]int{0}), 0)
	is(t, "Inv", perm.Inv([]int{1, 2, 0}), 2, 0, 1)
	is(t, "Inv", perm.Inv([]int{3, 0, 2, 1}), 1, 3, 2, 0)
	is(t, "Inv", perm.Inv([]int{1, 2, 3, 4, 5, 6, 7, 0}), 7, 0, 1, 2, 3, 4, 5, 6)
	for _, p := range wrong() {
		is(t, "wrong", perm.Inv(p))
	}
}

// P8.2
func TestMove(t *testing.T) {
	is(t, "Move", perm.Move(nil, nil))
	is(t, "Move", perm.Move([]int{0}, []int{-5}), -5)
	is(t, "Move", perm.Move([]int{1, 2, 0}, []int{10, 20, 30}), 30, 10, 20)
	is(t, "Move, alike", perm.Move([]int{1, 2, 0, 3}, []int{7, 7, math.MinInt, math.MaxInt}), math.MinInt, 7, 7, math.MaxInt)
	is(t, "eight", perm.Move([]int{1, 2, 3, 4, 5, 6, 7, 0}, []int{1, 2, 3, 4, 5, 6, 7, 8}), 8, 1, 2, 3, 4, 5, 6, 7)
	for _, l := range [][]int{nil, {1}, {1, 2}, {1, 2, 3, 4}, make([]int, 9)} {
		is(t, "another length", perm.Move([]int{1, 2, 0}, l))
	}
	is(t, "another length", perm.Move(nil, []int{1}))
	for _, p := range wrong() {
		is(t, "wrong", perm.Move(p, make([]int, len(p))))
	}
}

// P8.3
func TestRank(t *testing.T) {
	for n := range 8 {
		for k, p := range all(n) {
			if got := perm.Rank(p); got != k {
				t.Errorf("%v: %d, not %d", p, got, k)
			}
		}
	}
	for _, x := range []struct {
		p    []int
		want int
	}{{[]int{1, 0, 2}, 2}, {nil, 0}, {[]int{0, 1, 2, 3, 4, 5, 6, 7}, 0}, {[]int{0, 1, 2, 3, 4, 5, 7, 6}, 1}, {[]int{1, 0, 2, 3, 4, 5, 6, 7}, 5040}, {[]int{7, 6, 5, 4, 3, 2, 1, 0}, 40319}} {
		if got := perm.Rank(x.p); got != x.want {
			t.Errorf("%v: %d, not %d", x.p, got, x.want)
		}
	}
	for _, p := range wrong() {
		if got := perm.Rank(p); got != -1 {
			t.Errorf("%v: %d", p, got)
		}
	}
}

// P8.3
func TestUnrank(t *testing.T) {
	many := 1
	for n := range 9 {
		many *= max(n, 1)
		for _, k := range []int{-1, -2, math.MinInt, many, many + 1, 2 * many, 2*many + 1, 1 << 40, math.MaxInt} {
			is(t, "a wrong rank", perm.Unrank(n, k))
		}
		if n < 8 {
			for k, p := range all(n) {
				is(t, "Unrank", perm.Unrank(n, k), p...)
			}
		}
	}
	is(t, "Unrank", perm.Unrank(3, 2), 1, 0, 2)
	is(t, "Unrank", perm.Unrank(8, 5040), 1, 0, 2, 3, 4, 5, 6, 7)
	is(t, "Unrank", perm.Unrank(8, 40319), 7, 6, 5, 4, 3, 2, 1, 0)
	for _, n := range counts() {
		for _, k := range []int{0, 1, -1, math.MaxInt, math.MinInt} {
			is(t, "a wrong number", perm.Unrank(n, k))
		}
	}
}

// P8.3
func TestAll(t *testing.T) {
	for n := range 9 {
		got, want := slices.Collect(perm.All(n)), all(n)
		if !slices.EqualFunc(got, want, slices.Equal[[]int]) {
			t.Errorf("All of %d: %d of them, not %d", n, len(got), len(want))
		}
	}
	for _, n := range counts() {
		for p := range perm.All(n) {
			t.Errorf("All of %d tells %v", n, p)
		}
	}
}

// P8.3, and the rules that hold everywhere: All may be left at any time, and gone over again; what it tells may be changed.
func TestAllAgain(t *testing.T) {
	want := all(4)
	tells := perm.All(4)
	for stop := range len(want) + 1 {
		k := 0
		for p := range tells {
			if k == stop {
				break
			}
			is(t, "again", p, want[k]...)
			p = p[:cap(p)]
			for i := range p {
				p[i] = 99
			}
			k++
		}
		if k != stop {
			t.Errorf("%d told, not %d", k, stop)
		}
	}
	k := 0
	for a := range tells {
		inner := 0
		for b := range tells {
			is(t, "within", b, want[inner]...)
			inner++
		}
		is(t, "around", a, want[k]...)
		k++
	}
	if k != 24 {
		t.Error(k)
	}
	kept := slices.Collect(tells)
	for i, p := range kept {
		p = p[:cap(p)]
		for at := range p {
			p[at] = -i
		}
	}
	for i, p := range kept {
		is(t, "memory of its own", p, slices.Repeat([]int{-i}, 4)...)
	}
}

// P8.4
func TestOrder(t *testing.T) {
	for _, x := range []struct {
		p    []int
		want int
	}{
		{nil, 1}, {[]int{0}, 1}, {[]int{0, 1, 2, 3, 4, 5, 6, 7}, 1}, {[]int{1, 0}, 2}, {[]int{1, 2, 0}, 3}, {[]int{2, 0, 1}, 3}, {[]int{0, 2, 1}, 2}, {[]int{1, 0, 3, 2}, 2}, {[]int{1, 2, 3, 0}, 4},
		{[]int{1, 0, 3, 4, 2}, 6}, {[]int{1, 2, 0, 4, 5, 3}, 3}, {[]int{1, 2, 3, 0, 5, 4}, 4}, {[]int{1, 2, 0, 4, 5, 6, 3}, 12}, {[]int{1, 2, 0, 4, 5, 6, 7, 3}, 15}, {[]int{1, 2, 3, 4, 5, 6, 7, 0}, 8},
	} {
		if got := perm.Order(x.p); got != x.want {
			t.Errorf("%v: %d, not %d", x.p, got, x.want)
		}
	}
	for _, p := range wrong() {
		if got := perm.Order(p); got != 0 {
			t.Errorf("%v: %d", p, got)
		}
	}
	for n := range 7 {
		for _, p := range all(n) {
			times, at := 1, slices.Clone(p)
			for !slices.IsSorted(at) {
				for i, x := range at {
					at[i] = p[x]
				}
				times++
			}
			if got := perm.Order(p); got != times {
				t.Errorf("%v: %d, not %d", p, got, times)
			}
		}
	}
}

// P8.5
func TestGroup(t *testing.T) {
	for n := range 5 {
		id := perm.Id(n)
		l := make([]int, n)
		for i := range l {
			l[i] = 100 - 7*i
		}
		for a := range perm.All(n) {
			is(t, "to and back", perm.Mul(a, perm.Inv(a)), id...)
			is(t, "back and to", perm.Mul(perm.Inv(a), a), id...)
			is(t, "Move back", perm.Move(perm.Inv(a), perm.Move(a, l)), l...)
			for b := range perm.All(n) {
				ab := perm.Mul(a, b)
				is(t, "Move", perm.Move(ab, l), perm.Move(b, perm.Move(a, l))...)
				for c := range perm.All(n) {
					is(t, "brackets", perm.Mul(ab, c), perm.Mul(a, perm.Mul(b, c))...)
				}
			}
		}
	}
	for a := range perm.All(8) {
		if !slices.Equal(perm.Mul(a, perm.Inv(a)), perm.Id(8)) || !slices.Equal(perm.Mul(perm.Inv(a), a), perm.Id(8)) {
			t.Error(a)
		}
	}
}

// P8.6
func TestRanks(t *testing.T) {
	many := 1
	for n := range 9 {
		many *= max(n, 1)
		k := 0
		for p := range perm.All(n) {
			if perm.Rank(p) != k || !slices.Equal(perm.Unrank(n, k), p) {
				t.Fatalf("%v is no %d", p, k)
			}
			k++
		}
		if k != many {
			t.Errorf("%d of %d things", k, n)
		}
	}
}

// The limit that the tests above lean on.
func TestMost(t *testing.T) {
	if api.MaxPerm != 8 {
		t.Error(api.MaxPerm)
	}
}

// The rules that hold everywhere: nothing that is handed in is changed, nothing behind a list's length plays a part, and what is answered is new.
func TestArgumentsStay(t *testing.T) {
	p, q, l := []int{1, 2, 0, 3}, []int{0, 2, 1, 0}, []int{5, 6, 7, 8}
	calls := func() [][]int {
		return [][]int{perm.Mul(p[:3], q[:3]), perm.Inv(p[:3]), perm.Move(p[:3], l[:3]), perm.Mul(q[:3], q[:3]), {perm.Rank(q[:3]), perm.Order(p[:3])}}
	}
	want := [][]int{{2, 1, 0}, {2, 0, 1}, {7, 5, 6}, {0, 1, 2}, {1, 3}}
	for range 2 {
		for i, got := range calls() {
			is(t, "call", got, want[i]...)
			got = got[:cap(got)]
			for k := range got {
				got[k] = -3
			}
		}
	}
	is(t, "p", p, 1, 2, 0, 3)
	is(t, "q", q, 0, 2, 1, 0)
	is(t, "l", l, 5, 6, 7, 8)
	one := perm.Id(3)
	one[0] = 9
	is(t, "Id", perm.Id(3), 0, 1, 2)
	one = perm.Unrank(3, 3)
	one[0] = 9
	is(t, "Unrank", perm.Unrank(3, 3), 1, 2, 0)
	if !perm.Check(q[:3]) || perm.Check(q) {
		t.Error("Check")
	}
}
