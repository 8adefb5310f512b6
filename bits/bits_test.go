package bits_test

import (
	"fmt"
	"iter"
	"math"
	mathbits "math/bits"
	"slices"
	"testing"

	"lariat/api"
	"lariat/bits"
)

// lengths: at and around those at which a word more is needed, and the bounds.
func lengths() []int {
	return []int{0, 1, 2, 5, 63, 64, 65, 127, 128, 129, 1000, api.MaxNodes - 1, api.MaxNodes}
}

// outside: numbers that no set of length n has room for; among them those that stand in its last word behind its length.
func outside(n int) []int {
	return []int{-1, -2, -63, -64, -65, n, n + 1, n + 63, n + 64, 2*n + 128, api.MaxNodes, 1 << 40, math.MaxInt, math.MinInt, math.MinInt + 1}
}

// words: numbers of 64 bits with few ones, with many, and at the edges.
func words() []uint64 {
	l := []uint64{0, 10, math.MaxUint64, 0x5555555555555555, 0xaaaaaaaaaaaaaaaa, 14695981039346656037, 1 << 63, 1<<63 | 1}
	for i := range 64 {
		l = append(l, 1<<i, 1<<i-1, ^(1 << i))
	}
	return l
}

// told: what an iterator tells. It must tell the same when it is gone over again, and after it was left early.
func told(t *testing.T, all iter.Seq[int]) []int {
	t.Helper()
	l := slices.Collect(all)
	for most := range len(l) {
		var some []int
		for i := range all {
			some = append(some, i)
			if len(some) > most {
				break
			}
		}
		if !slices.Equal(some, l[:most+1]) {
			t.Errorf("left after %d: %v of %v", most+1, some, l)
		}
		if most == 3 {
			break
		}
	}
	if again := slices.Collect(all); !slices.Equal(again, l) {
		t.Errorf("again: %v, not %v", again, l)
	}
	return l
}

// is: a set of length n with just the numbers l, which rise.
func is(t *testing.T, name string, s *bits.Set, n int, l []int) {
	t.Helper()
	if s == nil {
		t.Errorf("%s: nil", name)
		return
	}
	if got := told(t, s.All()); s.Len() != n || s.Count() != len(l) || !slices.Equal(got, l) {
		t.Errorf("%s: length %d, count %d, %v; not %d, %d, %v", name, s.Len(), s.Count(), got, n, len(l), l)
	}
	for i := -2; i < min(n, 1000)+70; i++ {
		if _, has := slices.BinarySearch(l, i); s.Has(i) != has {
			t.Errorf("%s: Has(%d) is %v", name, i, !has)
		}
	}
}

// P3.1
func TestNew(t *testing.T) {
	for _, n := range lengths() {
		is(t, fmt.Sprintf("New(%d)", n), bits.New(n), n, nil)
	}
	for _, n := range []int{-1, -64, -api.MaxNodes, math.MinInt, math.MinInt + 62, api.MaxNodes + 1, 1 << 40, math.MaxInt, math.MaxInt - 62} {
		if bits.New(n) != nil {
			t.Errorf("New(%d) is a set", n)
		}
	}
}

// P3.1
func TestOf(t *testing.T) {
	for _, x := range []struct {
		n       int
		l, want []int
	}{
		{5, []int{3, 1, 3, 9}, []int{1, 3}}, {5, nil, nil}, {0, nil, nil}, {0, []int{0, -1, 1}, nil}, {1, []int{0, 0, 0}, []int{0}},
		{5, []int{4, 3, 2, 1, 0}, []int{0, 1, 2, 3, 4}}, {5, []int{5, -1, 63, 64}, nil}, {64, []int{63, 64, 0}, []int{0, 63}}, {65, []int{64, 65, 127, 63}, []int{63, 64}},
		{api.MaxNodes, []int{api.MaxNodes, api.MaxNodes - 1, math.MinInt, math.MaxInt}, []int{api.MaxNodes - 1}},
	} {
		l := slices.Clone(x.l)
		is(t, fmt.Sprintf("Of(%d, %v)", x.n, x.l), bits.Of(x.n, l...), x.n, x.want)
		if !slices.Equal(l, x.l) {
			t.Errorf("%v is now %v", x.l, l)
		}
	}
	for _, n := range []int{-1, math.MinInt, api.MaxNodes + 1, math.MaxInt} {
		if bits.Of(n, 0, 1, n) != nil || bits.Of(n) != nil {
			t.Errorf("Of(%d) is a set", n)
		}
	}
	l := []int{1, 2}
	s := bits.Of(5, l...)
	l[0] = 4
	is(t, "a list that was handed in", s, 5, []int{1, 2})
}

// P3.2: each number comes and goes once, and no other one with it.
func TestPutAndDrop(t *testing.T) {
	for _, n := range lengths() {
		for _, i := range []int{0, 1, 4, 62, 63, 64, 65, 127, 128, n / 2, n - 2, n - 1} {
			if i < 0 || i >= n {
				continue
			}
			s := bits.New(n)
			if s.Has(i) || s.Drop(i) || !s.Put(i) || !s.Has(i) || s.Put(i) {
				t.Errorf("length %d: %d does not come", n, i)
			}
			is(t, "with one", s, n, []int{i})
			if !s.Drop(i) || s.Has(i) || s.Drop(i) {
				t.Errorf("length %d: %d does not go", n, i)
			}
			is(t, "without", s, n, nil)
		}
	}
}

// P3.2: a number that there is no room for.
func TestOutside(t *testing.T) {
	for _, n := range lengths() {
		full := bits.New(n)
		for i := range n {
			full.Put(i)
		}
		for _, s := range []*bits.Set{bits.New(n), full} {
			before := s.Count()
			for _, i := range outside(n) {
				if i >= 0 && i < n {
					continue
				}
				if s.Has(i) || s.Put(i) || s.Drop(i) || s.Has(i) {
					t.Errorf("length %d has room for %d", n, i)
				}
			}
			if s.Count() != before || s.Len() != n {
				t.Errorf("length %d: a refused call changes the set", n)
			}
		}
	}
}

// P3.2: many calls, one behind the other, held against a list of bools.
func TestManyCalls(t *testing.T) {
	for _, n := range []int{1, 5, 63, 64, 65, 130, 300} {
		s, has := bits.New(n), make([]bool, n)
		count, step := 0, uint64(n)
		for range 4000 {
			step = step*6364136223846793005 + 1442695040888963407
			i := int(step>>33) % n
			switch step >> 62 {
			case 0, 1:
				if s.Put(i) == has[i] {
					t.Fatalf("length %d: Put(%d) is %v", n, i, has[i])
				}
				if !has[i] {
					count++
				}
				has[i] = true
			default:
				if s.Drop(i) != has[i] {
					t.Fatalf("length %d: Drop(%d) is %v", n, i, !has[i])
				}
				if has[i] {
					count--
				}
				has[i] = false
			}
			if s.Has(i) != has[i] || s.Count() != count {
				t.Fatalf("length %d: Has(%d) %v, Count %d", n, i, s.Has(i), s.Count())
			}
		}
		var l []int
		for i, h := range has {
			if h {
				l = append(l, i)
			}
		}
		is(t, "after many calls", s, n, l)
	}
}

// P3.2 and the rules that hold everywhere: an iterator tells what there is when it is gone over.
func TestAllTellsWhatThereIs(t *testing.T) {
	s := bits.Of(200, 3)
	all := s.All()
	s.Put(150)
	s.Put(1)
	if l := told(t, all); !slices.Equal(l, []int{1, 3, 150}) {
		t.Error(l)
	}
	s.Drop(3)
	if l := told(t, all); !slices.Equal(l, []int{1, 150}) {
		t.Error(l)
	}
	// One within the other.
	var pairs [][2]int
	for a := range all {
		for b := range all {
			pairs = append(pairs, [2]int{a, b})
		}
	}
	if !slices.Equal(pairs, [][2]int{{1, 1}, {1, 150}, {150, 1}, {150, 150}}) {
		t.Error(pairs)
	}
}

// P3.3
func TestOfTwo(t *testing.T) {
	for _, x := range []struct {
		n                        int
		a, b, and, or, minus, om []int
	}{
		{0, nil, nil, nil, nil, nil, nil},
		{5, []int{1, 3}, []int{3, 4}, []int{3}, []int{1, 3, 4}, []int{1}, []int{4}},
		{5, []int{1, 3}, nil, nil, []int{1, 3}, []int{1, 3}, nil},
		{5, []int{0, 4}, []int{0, 4}, []int{0, 4}, []int{0, 4}, nil, nil},
		{64, []int{0, 63}, []int{63}, []int{63}, []int{0, 63}, []int{0}, nil},
		{130, []int{0, 64, 129}, []int{63, 64, 128}, []int{64}, []int{0, 63, 64, 128, 129}, []int{0, 129}, []int{63, 128}},
		{api.MaxNodes, []int{7, api.MaxNodes - 1}, []int{api.MaxNodes - 1}, []int{api.MaxNodes - 1}, []int{7, api.MaxNodes - 1}, []int{7}, nil},
	} {
		a, b := bits.Of(x.n, x.a...), bits.Of(x.n, x.b...)
		is(t, "And", a.And(b), x.n, x.and)
		is(t, "And about", b.And(a), x.n, x.and)
		is(t, "Or", a.Or(b), x.n, x.or)
		is(t, "Or about", b.Or(a), x.n, x.or)
		is(t, "Minus", a.Minus(b), x.n, x.minus)
		is(t, "Minus about", b.Minus(a), x.n, x.om)
		is(t, "the first", a, x.n, x.a)
		is(t, "the second", b, x.n, x.b)
	}
}

// P3.3: unlike lengths, of one word and of several.
func TestUnlikeLengths(t *testing.T) {
	for _, a := range lengths() {
		for _, b := range lengths() {
			s, o := bits.Of(a, 0), bits.Of(b, 0)
			if a == b {
				if s.And(o) == nil || s.Or(o) == nil || s.Minus(o) == nil || !s.Same(o) {
					t.Errorf("two of length %d", a)
				}
				continue
			}
			if s.And(o) != nil || s.Or(o) != nil || s.Minus(o) != nil || s.Same(o) || bits.New(a).Same(bits.New(b)) {
				t.Errorf("lengths %d and %d", a, b)
			}
		}
	}
}

// P3.3 and the rules that hold everywhere: what is answered is new, and stays as it is.
func TestOfTwoIsNew(t *testing.T) {
	for name, call := range map[string]func(s, o *bits.Set) *bits.Set{"And": (*bits.Set).And, "Or": (*bits.Set).Or, "Minus": (*bits.Set).Minus} {
		s, o := bits.Of(70, 1, 66), bits.Of(70, 2, 66)
		out, again := call(s, o), call(s, o)
		before := slices.Collect(again.All())
		for i := range 70 {
			if !out.Drop(i) {
				out.Put(i)
			}
		}
		is(t, name+": the first", s, 70, []int{1, 66})
		is(t, name+": the second", o, 70, []int{2, 66})
		s.Drop(1)
		s.Put(5)
		o.Drop(2)
		o.Put(6)
		is(t, name+": another answer", again, 70, before)
		// A set with itself.
		itself := call(s, s)
		itself.Put(9)
		itself.Drop(66)
		is(t, name+": with itself", s, 70, []int{5, 66})
	}
}

// P3.3
func TestSame(t *testing.T) {
	for _, x := range []struct {
		a, b *bits.Set
		want bool
	}{
		{bits.New(0), bits.New(0), true}, {bits.New(0), bits.New(1), false}, {bits.New(64), bits.New(63), false},
		{bits.Of(5, 1, 3), bits.Of(5, 3, 1, 3, 9), true}, {bits.Of(5, 1, 3), bits.Of(6, 1, 3), false}, {bits.Of(5, 1, 3), bits.Of(5, 1), false}, {bits.Of(5, 1, 3), bits.Of(5, 1, 4), false},
		{bits.Of(200, 0, 199), bits.Of(200, 199, 0), true}, {bits.Of(200, 0, 199), bits.Of(200, 0, 198), false}, {bits.Of(200, 0), bits.Of(200, 64), false},
	} {
		if x.a.Same(x.b) != x.want || x.b.Same(x.a) != x.want || !x.a.Same(x.a) || !x.b.Same(x.b) {
			t.Errorf("%v of %d, %v of %d", slices.Collect(x.a.All()), x.a.Len(), slices.Collect(x.b.All()), x.b.Len())
		}
	}
	// What came and went leaves nothing.
	s := bits.Of(100, 7, 99)
	s.Drop(99)
	if !s.Same(bits.Of(100, 7)) || !bits.Of(100, 7).Same(s) || s.Same(bits.Of(100, 7, 99)) {
		t.Error("after Drop")
	}
}

// P3.4
func TestOnesAndEach(t *testing.T) {
	for _, u := range words() {
		if bits.Ones(u) != mathbits.OnesCount64(u) {
			t.Errorf("Ones(%d) = %d", u, bits.Ones(u))
		}
		var want []int
		for i := range 64 {
			if u>>i&1 == 1 {
				want = append(want, i)
			}
		}
		if got := told(t, bits.Each(u)); !slices.Equal(got, want) {
			t.Errorf("Each(%d) = %v, not %v", u, got, want)
		}
	}
	if l := slices.Collect(bits.Each(10)); bits.Ones(10) != 2 || !slices.Equal(l, []int{1, 3}) {
		t.Error(l)
	}
}

// P3.5
func TestNoSet(t *testing.T) {
	for name, s := range map[string]*bits.Set{"nil": nil, "new": new(bits.Set), "literal": {}} {
		for range 2 { // the second round: no call of the first one has made it a set
			for _, i := range []int{0, 1, 63, 64, -1, math.MinInt, math.MaxInt} {
				if s.Has(i) || s.Put(i) || s.Drop(i) || s.Has(i) {
					t.Error(name, i)
				}
			}
			if s.Len() != 0 || s.Count() != 0 || len(told(t, s.All())) != 0 {
				t.Error(name, s.Len(), s.Count())
			}
			noSetWith(t, name, s)
		}
	}
}

// P3.5: no set, as s and as o, with sets and with none.
func noSetWith(t *testing.T, name string, s *bits.Set) {
	t.Helper()
	for i, o := range []*bits.Set{nil, new(bits.Set), bits.New(0), bits.New(1), bits.Of(1, 0), bits.Of(100, 99)} {
		if s.And(o) != nil || s.Or(o) != nil || s.Minus(o) != nil {
			t.Error(name, "with", i)
		}
		if o.And(s) != nil || o.Or(s) != nil || o.Minus(s) != nil {
			t.Error(i, "with", name)
		}
		if want := i < 3; s.Same(o) != want || o.Same(s) != want {
			t.Error(name, "the same as", i, !want)
		}
	}
	if s.And(s) != nil || s.Or(s) != nil || s.Minus(s) != nil || !s.Same(s) {
		t.Error(name, "with itself")
	}
}

// P3.5: a set of length 0 that a call made is one, and so is what two of these make.
func TestNoLength(t *testing.T) {
	s := bits.New(0)
	for i, out := range []*bits.Set{s.And(s), s.Or(bits.Of(0, 1)), bits.Of(0).Minus(s), s.And(s).Or(s.Minus(s))} {
		if out == nil || out.Len() != 0 || out.And(s) == nil {
			t.Error(i)
		}
	}
}

// P3.6
func lawsOf(t *testing.T, a, b *bits.Set) {
	t.Helper()
	and, or, minus, about := a.And(b), a.Or(b), a.Minus(b), b.Minus(a)
	if or.Count() != a.Count()+b.Count()-and.Count() {
		t.Errorf("%d in one or in both of %d and %d, %d in both", or.Count(), a.Count(), b.Count(), and.Count())
	}
	if !and.Or(minus).Same(a) || and.And(minus).Count() != 0 || !and.Or(about).Same(b) || !minus.Or(b).Same(or) || !about.Or(a).Same(or) {
		t.Error(slices.Collect(a.All()), slices.Collect(b.All()))
	}
	for i := range a.Len() {
		if a.Has(i) != (and.Has(i) != minus.Has(i)) || and.Has(i) && minus.Has(i) || or.Has(i) != (a.Has(i) || b.Has(i)) {
			t.Error(i, slices.Collect(a.All()), slices.Collect(b.All()))
		}
	}
}

// P3.6: all pairs of sets of few numbers, and pairs over the words' edges.
func TestAsSetsAre(t *testing.T) {
	for n := range 6 {
		for u := range uint64(1) << n {
			for v := range uint64(1) << n {
				lawsOf(t, bits.Of(n, slices.Collect(bits.Each(u))...), bits.Of(n, slices.Collect(bits.Each(v))...))
			}
		}
	}
	for _, n := range []int{63, 64, 65, 128, 200} {
		for a := 1; a < 8; a++ {
			for b := 1; b < 8; b++ {
				s, o := bits.New(n), bits.New(n)
				for i := range n {
					if i%a == 0 {
						s.Put(i)
					}
					if i%b == b-1 {
						o.Put(i)
					}
				}
				lawsOf(t, s, o)
			}
		}
	}
}
