package ring_test

import (
	"iter"
	"math"
	"slices"
	"testing"

	"lariat/api"
	"lariat/ring"
)

// told: what an iterator tells. It must tell the same when it is gone over again, and after it was left early.
func told[T comparable](t *testing.T, all iter.Seq[T]) []T {
	t.Helper()
	l := slices.Collect(all)
	for most := range min(len(l), 4) {
		var some []T
		for x := range all {
			some = append(some, x)
			if len(some) > most {
				break
			}
		}
		if !slices.Equal(some, l[:most+1]) {
			t.Errorf("left after %d: %v of %v", most+1, some, l)
		}
	}
	if again := slices.Collect(all); !slices.Equal(again, l) {
		t.Errorf("again: %v, not %v", again, l)
	}
	return l
}

// is: just the things l stand in the queue, in this order, and stay there.
func is[T comparable](t *testing.T, q *ring.Queue[T], l ...T) {
	t.Helper()
	if got := told(t, q.All()); q.Len() != len(l) || !slices.Equal(got, l) {
		t.Errorf("Len %d, %v; not %d, %v", q.Len(), got, len(l), l)
	}
}

// comes: what Take or Last answers.
func comes[T comparable](t *testing.T, call func() (T, bool), want T) {
	t.Helper()
	if x, is := call(); x != want || !is {
		t.Errorf("%v, %v; not %v", x, is, want)
	}
}

// nothing: neither Take nor Last has anything.
func nothing[T comparable](t *testing.T, q *ring.Queue[T]) {
	t.Helper()
	var none T
	if x, is := q.Take(); x != none || is {
		t.Errorf("Take: %v, %v", x, is)
	}
	if x, is := q.Last(); x != none || is {
		t.Errorf("Last: %v, %v", x, is)
	}
	is(t, q)
}

func of[T any](t *testing.T, most int, l ...T) *ring.Queue[T] {
	t.Helper()
	q := ring.New[T](most)
	for _, x := range l {
		if !q.Put(x) {
			t.Errorf("no room for %v", x)
		}
	}
	return q
}

// P5.1, P5.2: the chapter's example.
func TestExample(t *testing.T) {
	q := ring.New[int](2)
	is(t, q)
	if !q.Put(1) || !q.Push(2) || q.Put(3) {
		t.Error("of two")
	}
	is(t, q, 2, 1)
	comes(t, q.Last, 1)
	is(t, q, 2)
	comes(t, q.Take, 2)
	nothing(t, q)
}

// P5.1: as many things as may stand there, whichever way they come; what is refused changes nothing.
func TestMost(t *testing.T) {
	for _, x := range []struct{ most, room int }{
		{0, 0}, {1, 1}, {2, 2}, {3, 3}, {4, 4}, {7, 7}, {8, 8}, {9, 9}, {100, 100}, {1000, 1000},
		{-1, 0}, {-2, 0}, {-api.MaxNodes, 0}, {math.MinInt, 0}, {math.MinInt + 1, 0},
		{api.MaxNodes - 1, api.MaxNodes - 1}, {api.MaxNodes, api.MaxNodes}, {api.MaxNodes + 1, api.MaxNodes}, {1 << 40, api.MaxNodes}, {math.MaxInt, api.MaxNodes},
	} {
		for name, add := range map[string]func(*ring.Queue[int], int) bool{"Put": (*ring.Queue[int]).Put, "Push": (*ring.Queue[int]).Push} {
			q := ring.New[int](x.most)
			if q.Len() != 0 {
				t.Errorf("New(%d): Len %d", x.most, q.Len())
			}
			for i := range x.room {
				if !add(q, i) || q.Len() != i+1 {
					t.Fatalf("New(%d): %s of %d; Len %d", x.most, name, i, q.Len())
				}
			}
			before := slices.Collect(q.All())
			for range 3 {
				if q.Put(-1) || q.Push(-2) {
					t.Errorf("New(%d) has room for more than %d", x.most, x.room)
				}
			}
			is(t, q, before...)
		}
	}
}

// P5.1: there is room again for each thing that goes, and for no more.
func TestRoomAgain(t *testing.T) {
	for most := 1; most < 6; most++ {
		q := ring.New[int](most)
		for i := range most {
			q.Put(i)
		}
		for i := range 4 * most {
			comes(t, q.Take, i)
			if !q.Put(most+i) || q.Put(-1) || q.Push(-1) {
				t.Errorf("of %d, round %d", most, i)
			}
		}
		front := 4 * most
		for i := range 3 * most {
			comes(t, q.Last, front+most-1-i)
			if !q.Push(front-1-i) || q.Push(-1) || q.Put(-1) {
				t.Errorf("of %d, round %d back", most, i)
			}
		}
		if q.Len() != most {
			t.Errorf("of %d: Len %d", most, q.Len())
		}
	}
}

// P5.2
func TestTakeAndLast(t *testing.T) {
	q := of(t, 5, "a", "b", "c", "d", "e")
	is(t, q, "a", "b", "c", "d", "e")
	comes(t, q.Take, "a")
	comes(t, q.Last, "e")
	is(t, q, "b", "c", "d")
	comes(t, q.Last, "d")
	comes(t, q.Take, "b")
	comes(t, q.Last, "c")
	nothing(t, q)
	if !q.Push("f") {
		t.Error("no room in an empty one")
	}
	comes(t, q.Take, "f")
	nothing(t, q)
}

// P5.2: things that are zero things themselves are told with true.
func TestZeroThings(t *testing.T) {
	q := of(t, 3, 0, 0, 0)
	is(t, q, 0, 0, 0)
	comes(t, q.Take, 0)
	comes(t, q.Last, 0)
	comes(t, q.Take, 0)
	nothing(t, q)
}

// P5.2: queues are of any type.
func TestAnyType(t *testing.T) {
	type pair struct {
		a int
		b string
	}
	p := of(t, 2, pair{1, "x"}, pair{2, "y"})
	comes(t, p.Last, pair{2, "y"})
	comes(t, p.Take, pair{1, "x"})
	nothing(t, p)
	n := 7
	w := of(t, 2, nil, &n)
	comes(t, w.Take, (*int)(nil))
	comes(t, w.Take, &n)
	nothing(t, w)
	e := of(t, 2, struct{}{}, struct{}{})
	if e.Put(struct{}{}) || e.Len() != 2 {
		t.Error("things of no size")
	}
	comes(t, e.Take, struct{}{})
	comes(t, e.Take, struct{}{})
	nothing(t, e)
	l := of(t, 2, []int{1, 2}, nil)
	if x, is := l.Take(); !slices.Equal(x, []int{1, 2}) || !is {
		t.Error("lists")
	}
	if x, is := l.Take(); x != nil || !is || l.Len() != 0 {
		t.Error("no list")
	}
	if x, is := l.Take(); x != nil || is {
		t.Error("lists: nothing stands there")
	}
	f := of(t, 1, func() int { return 9 })
	if call, is := f.Last(); !is || call() != 9 {
		t.Error("functions")
	}
	q := of(t, 1, any(3))
	comes(t, q.Take, any(3))
	nothing(t, q)
}

// P5.2 and the rules that hold everywhere: an iterator tells what there is when it is gone over.
func TestAllTellsWhatThereIs(t *testing.T) {
	q := ring.New[int](4)
	all := q.All()
	if l := told(t, all); len(l) != 0 {
		t.Error(l)
	}
	q.Put(1)
	q.Put(2)
	q.Push(3)
	if l := told(t, all); !slices.Equal(l, []int{3, 1, 2}) {
		t.Error(l)
	}
	q.Take()
	q.Put(4)
	q.Put(5)
	if l := told(t, all); !slices.Equal(l, []int{1, 2, 4, 5}) {
		t.Error(l)
	}
	// One within the other.
	q.Last()
	q.Last()
	var pairs [][2]int
	for a := range all {
		for b := range all {
			pairs = append(pairs, [2]int{a, b})
		}
	}
	if !slices.Equal(pairs, [][2]int{{1, 1}, {1, 2}, {2, 1}, {2, 2}}) {
		t.Error(pairs)
	}
}

// The rules that hold everywhere: no call panics, and going over ends, whatever is done in between.
func TestChangedWhileGoneOver(t *testing.T) {
	for name, change := range map[string]func(*ring.Queue[int]){
		"Take": func(q *ring.Queue[int]) { q.Take() }, "Last": func(q *ring.Queue[int]) { q.Last() },
		"Put": func(q *ring.Queue[int]) { q.Put(9) }, "Push": func(q *ring.Queue[int]) { q.Push(9) },
	} {
		q := of(t, 100, 1, 2, 3)
		n := 0
		for range q.All() {
			change(q)
			if n++; n > 1000 {
				t.Fatalf("%s: no end", name)
			}
		}
	}
}

// P5.3
func TestNoQueue(t *testing.T) {
	for name, q := range map[string]*ring.Queue[string]{"nil": nil, "new": new(ring.Queue[string]), "literal": {}} {
		for range 2 { // the second round: no call of the first one has made it a queue
			if q.Put("x") || q.Push("y") || q.Len() != 0 {
				t.Error(name)
			}
			nothing(t, q)
		}
	}
	var q ring.Queue[int]
	if q.Put(1) || q.Push(1) || q.Len() != 0 {
		t.Error("a variable")
	}
	nothing(t, &q)
}

// Several queues have nothing in common.
func TestApart(t *testing.T) {
	a, b := of(t, 3, 1, 2), of(t, 3, 3)
	a.Put(4)
	b.Push(5)
	comes(t, a.Take, 1)
	is(t, a, 2, 4)
	is(t, b, 5, 3)
}

// P5.4: of all lengths up to where room was made several times, in a queue that begins at any of its places.
func TestQueueAndStack(t *testing.T) {
	for n := range 40 {
		for off := range 10 {
			begin := func() *ring.Queue[int] {
				q := ring.New[int](50)
				for i := range off {
					q.Put(i)
				}
				for range off {
					q.Take()
				}
				return q
			}
			all := func(call func() (int, bool)) []int {
				var l []int
				for x, is := call(); is; x, is = call() {
					l = append(l, x)
				}
				return l
			}
			var up, down []int
			for i := range n {
				up, down = append(up, i), append([]int{i}, down...)
			}
			put := func() *ring.Queue[int] {
				q := begin()
				for i := range n {
					q.Put(i)
				}
				is(t, q, up...)
				return q
			}
			push := func() *ring.Queue[int] {
				q := begin()
				for i := range n {
					q.Push(i)
				}
				is(t, q, down...)
				return q
			}
			if !slices.Equal(all(put().Take), up) || !slices.Equal(all(put().Last), down) || !slices.Equal(all(push().Last), up) || !slices.Equal(all(push().Take), down) {
				t.Errorf("%d things, %d ahead", n, off)
			}
		}
	}
}

// P5.1, P5.2: many calls, one behind the other, held against a list.
func TestManyCalls(t *testing.T) {
	for _, most := range []int{0, 1, 2, 3, 7, 16, 40} {
		q := ring.New[int](most)
		var l []int
		step := uint64(most)
		for i := range 20000 {
			step = step*6364136223846793005 + 1442695040888963407
			call := step >> 33 % 4
			if i/200%2 == 0 && step>>40%4 == 0 { // there is more put in some stretches than is taken
				call %= 2
			}
			switch call {
			case 0, 1:
				add := q.Put
				if call == 1 {
					add = q.Push
				}
				if got := add(i); got != (len(l) < most) {
					t.Fatalf("of %d: %d of %d is %v", most, call, len(l), got)
				}
				switch {
				case len(l) == most:
				case call == 0:
					l = append(l, i)
				default:
					l = append([]int{i}, l...)
				}
			default:
				take, at := q.Take, 0
				if call == 3 {
					take, at = q.Last, len(l)-1
				}
				x, is := take()
				if is != (len(l) > 0) || is && x != l[at] || !is && x != 0 {
					t.Fatalf("of %d: %d is %d, %v of %v", most, call, x, is, l)
				}
				if is {
					l = slices.Delete(l, at, at+1)
				}
			}
			if q.Len() != len(l) || !slices.Equal(slices.Collect(q.All()), l) {
				t.Fatalf("of %d: %v, not %v", most, slices.Collect(q.All()), l)
			}
		}
	}
}
