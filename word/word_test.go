package word_test

import (
	"fmt"
	"math"
	"slices"
	"testing"

	"lariat/api"
	"lariat/word"
)

// over: a word of these sets, those of the loop behind the first ones of the stem.
func over(stem int, sets ...uint64) api.Word {
	return api.Word{Stem: sets[:stem:stem], Loop: sets[stem:]}
}

// words: all words of at most so many places in Stem and in Loop whose sets are below kinds.
func words(stem, loop int, kinds uint64, tell func(w api.Word)) {
	for s := range stem + 1 {
		for l := range loop {
			sets := make([]uint64, s+l+1)
			var fill func(at int)
			fill = func(at int) {
				if at == len(sets) {
					tell(over(s, sets...))
					return
				}
				for set := range kinds {
					sets[at] = set
					fill(at + 1)
				}
			}
			fill(0)
		}
	}
}

// far: the sets at the first places of w, so many, told one by one as Stem and then Loop again and again have them.
func far(w api.Word, places int) []uint64 {
	var sets []uint64
	sets = append(sets, w.Stem...)
	for len(sets) < places {
		sets = append(sets, w.Loop...)
	}
	return sets[:places]
}

// equal: are the words the same as lists?
func equal(a, b api.Word) bool {
	return slices.Equal(a.Stem, b.Stem) && slices.Equal(a.Loop, b.Loop)
}

// copied: w in new memory.
func copied(w api.Word) api.Word {
	return api.Word{Stem: slices.Clone(w.Stem), Loop: slices.Clone(w.Loop)}
}

// wrong: words that may not be, and why.
func wrong() map[string]api.Word {
	all := make([]uint64, api.MaxNodes+1)
	for i := range all {
		all[i] = uint64(i)
	}
	return map[string]api.Word{
		"none 0": {}, "none 1": {Stem: []uint64{1, 2, 3}}, "none 2": {Stem: all}, "none 3": {Stem: all[:1], Loop: all[:0]},
		"many 0": {Loop: all}, "many 1": over(1, all...), "many 2": over(api.MaxNodes, all...), "many 3": {Stem: all, Loop: all},
	}
}

// P27.1
func TestCheck(t *testing.T) {
	for why, w := range wrong() {
		if got := word.Check(w); got.Error() != why[:4] {
			t.Errorf("%s: Check = %v", why, got)
		}
	}
	all := make([]uint64, api.MaxNodes)
	for i, w := range []api.Word{{Loop: []uint64{0}}, over(1, 7, 8), {Loop: all}, over(1, all...), over(api.MaxNodes-1, all...), over(2, 1, math.MaxUint64, 1<<63)} {
		if got := word.Check(w); got != api.OK {
			t.Errorf("%d: Check = %v", i, got)
		}
	}
}

// P27.1
func TestAt(t *testing.T) {
	w := over(1, 1, 0, 2)
	for i, set := range []uint64{1, 0, 2, 0, 2, 0, 2} {
		if word.At(w, i) != set {
			t.Error(i, word.At(w, i))
		}
	}
	for i, want := range map[int]uint64{-1: 0, -2: 0, math.MinInt: 0, math.MaxInt: 0, math.MaxInt - 1: 2, 1 << 40: 2, 1<<40 + 1: 0} {
		if word.At(w, i) != want {
			t.Error(i, word.At(w, i))
		}
	}
	words(3, 3, 3, func(w api.Word) {
		for i, set := range far(w, 20) {
			if word.At(w, i) != set {
				t.Fatalf("At(%v, %d) = %d", w, i, word.At(w, i))
			}
		}
		if word.Len(w) != len(w.Stem)+len(w.Loop) {
			t.Fatal(w, word.Len(w))
		}
	})
	for why, w := range wrong() {
		if word.Len(w) != len(w.Stem)+len(w.Loop) {
			t.Error(why, word.Len(w))
		}
		for _, i := range []int{-1, 0, 1, 2, 3, 65535, 65536, 65537, 65538, math.MaxInt, math.MinInt} {
			want := uint64(0)
			switch {
			case i >= 0 && i < len(w.Stem):
				want = w.Stem[i]
			case i >= 0 && len(w.Loop) > 0:
				want = w.Loop[(i-len(w.Stem))%len(w.Loop)]
			}
			if got := word.At(w, i); got != want {
				t.Errorf("%s: At(%d) = %d, not %d", why, i, got, want)
			}
		}
	}
	deep := over(0, math.MaxUint64, 1<<63)
	if word.At(deep, 10) != math.MaxUint64 || word.At(deep, 11) != 1<<63 {
		t.Error(word.At(deep, 10), word.At(deep, 11))
	}
}

// least: the word with the sets of w that has the shortest loop, and of those the shortest stem: the first one that has them, with loops and then stems that grow.
func least(w api.Word) api.Word {
	size := len(w.Stem) + len(w.Loop)
	sets := far(w, size+size*size)
	for loop := 1; ; loop++ {
		for stem := range size {
			if x := over(stem, sets[:stem+loop]...); slices.Equal(far(x, len(sets)), sets) {
				return x
			}
		}
	}
}

// P27.3
func TestNorm(t *testing.T) {
	for i, x := range []struct{ w, want api.Word }{
		{over(3, 0, 2, 0, 2, 0, 2, 0), over(0, 0, 2)}, {over(0, 1), over(0, 1)}, {over(0, 1, 1, 1, 1, 1), over(0, 1)}, {over(3, 1, 1, 1, 1, 1), over(0, 1)},
		{over(1, 1, 2), over(1, 1, 2)}, {over(2, 1, 2, 2), over(1, 1, 2)}, {over(0, 1, 2, 1), over(0, 1, 2, 1)}, {over(0, 1, 2, 1, 2, 1), over(0, 1, 2, 1, 2, 1)}, {over(0, 1, 2, 1, 2), over(0, 1, 2)},
		{over(2, 5, 3, 1, 2, 3), over(1, 5, 3, 1, 2)}, {over(4, 2, 3, 2, 3, 1, 2, 3, 1, 2, 3), over(2, 2, 3, 2, 3, 1)}, {over(7, 3, 1, 2, 3, 1, 2, 3, 1, 2, 3), over(0, 3, 1, 2)}, {over(1, 1<<63, 1<<62, 1<<63), over(0, 1<<63, 1<<62)},
	} {
		if got := word.Norm(x.w); !equal(got, x.want) {
			t.Errorf("%d: Norm(%v) = %v", i, x.w, got)
		}
	}
	check := func(w api.Word) {
		if got, want := word.Norm(w), least(w); !equal(got, want) {
			t.Fatalf("Norm(%v) = %v, not %v", w, got, want)
		}
	}
	words(3, 6, 2, check)
	words(3, 3, 3, check)
	words(6, 2, 2, check)
	for why, w := range wrong() {
		if !equal(word.Norm(w), w) {
			t.Error(why)
		}
	}
}

// P27.3: words as long as may be, of many divisors, of none, and whose stems go back far.
func TestNormLong(t *testing.T) {
	for _, size := range []int{api.MaxNodes, api.MaxNodes - 1, 55440, 65521} {
		sets := make([]uint64, size)
		checkNorm(t, over(0, sets...), api.Word{Loop: sets[:1]})
		checkNorm(t, over(size-1, sets...), api.Word{Loop: sets[:1]})
		sets[size-1] = 1
		checkNorm(t, over(0, sets...), over(0, sets...))
		checkNorm(t, over(size-1, sets...), over(size-1, sets...))
	}
	sets := far(over(0, 1, 1, 2, 1, 1, 3, 1), 7*8000+23)
	checkNorm(t, over(3*7+2, sets...), over(0, 1, 1, 2, 1, 1, 3, 1))
	sets = far(over(0, 1, 1, 2, 1, 1, 3, 1), 7*5000+30002)
	checkNorm(t, over(30002, sets...), over(0, 1, 1, 2, 1, 1, 3, 1))
	sets[30] = 4
	checkNorm(t, over(30002, sets...), over(31, sets[:38]...))
}

func checkNorm(t *testing.T, w, want api.Word) {
	t.Helper()
	if got := word.Norm(w); !equal(got, want) || !word.Same(w, want) || !word.Same(want, got) {
		t.Errorf("Norm is of %d and %d, not of %d and %d", len(got.Stem), len(got.Loop), len(want.Stem), len(want.Loop))
	}
}

// P27.3: of two words that may be, all places; false of others, though they be as lists the same.
func TestSame(t *testing.T) {
	var all []api.Word
	words(2, 4, 2, func(w api.Word) { all = append(all, copied(w)) })
	for _, a := range all {
		for _, b := range all {
			if got, want := word.Same(a, b), slices.Equal(far(a, 30), far(b, 30)); got != want {
				t.Fatalf("Same(%v, %v) = %v", a, b, got)
			}
		}
	}
	one := over(0, 0)
	for why, w := range wrong() {
		if word.Same(w, w) || word.Same(w, one) || word.Same(one, w) {
			t.Error(why)
		}
	}
	if !word.Same(over(1, 0, 0), over(0, 0, 0, 0)) || word.Same(over(0, 1), over(0, 1|1<<63)) || word.Same(over(0, 1, 2), over(0, 2, 1)) {
		t.Error("told")
	}
}

// P27.3
func TestShift(t *testing.T) {
	w := over(2, 5, 6, 1, 2, 3)
	for n, want := range map[int]api.Word{
		math.MinInt: w, -1: w, 0: w, 1: over(1, 6, 1, 2, 3), 2: over(0, 1, 2, 3), 3: over(0, 2, 3, 1), 4: over(0, 3, 1, 2), 5: over(0, 1, 2, 3), 6: over(0, 2, 3, 1), math.MaxInt: over(0, 3, 1, 2),
	} {
		if got := word.Shift(w, n); !equal(got, want) {
			t.Errorf("Shift(%d) = %v, not %v", n, got, want)
		}
	}
	words(3, 3, 3, func(w api.Word) {
		for n := -2; n < 12; n++ {
			got, begin := word.Shift(w, n), max(n, 0)
			if !slices.Equal(far(got, 20), far(w, 20+begin)[begin:]) || len(got.Stem) != max(len(w.Stem)-begin, 0) || len(got.Loop) != len(w.Loop) {
				t.Fatalf("Shift(%v, %d) = %v", w, n, got)
			}
		}
	})
	for why, w := range wrong() {
		for _, n := range []int{-1, 0, 1, 2, 65536, 65537, math.MaxInt, math.MinInt} {
			if !equal(word.Shift(w, n), w) {
				t.Error(why, n)
			}
		}
	}
}

// What is answered is new, and what stands behind a list's length plays no part.
func TestShared(t *testing.T) {
	sets := []uint64{1, 2, 1, 2, 1, 2, 7, 7}
	before := slices.Clone(sets)
	w := api.Word{Stem: sets[:1], Loop: sets[1:3]}
	for i, x := range []func() api.Word{
		func() api.Word { return word.Norm(w) },
		func() api.Word { return word.Norm(over(1, sets...)) },
		func() api.Word { return word.Norm(api.Word{Stem: sets[:3]}) },
		func() api.Word { return word.Shift(w, -3) },
		func() api.Word { return word.Shift(w, 0) },
		func() api.Word { return word.Shift(w, 1) },
		func() api.Word { return word.Shift(w, 2) },
		func() api.Word { return word.Shift(api.Word{Stem: sets[:3]}, 1) },
	} {
		told := fmt.Sprintf("%v %v", x(), before)
		for range 2 {
			got := x()
			_ = append(got.Stem, 9)
			if fmt.Sprintf("%v %v", got, sets) != told {
				t.Error(i, got, sets)
			}
			for k := range got.Stem {
				got.Stem[k] = 8
			}
			_ = append(got.Loop, 9, 9, 9, 9)
			for k := range got.Loop {
				got.Loop[k] = 8
			}
			if !slices.Equal(sets, before) {
				t.Fatal(i, sets)
			}
		}
	}
	if word.Check(w) != api.OK || word.Len(w) != 3 || word.At(w, 3) != 2 || !word.Same(w, over(0, 1, 2)) {
		t.Error("what stands behind")
	}
}
