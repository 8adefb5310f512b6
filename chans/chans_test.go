package chans_test

import (
	"math"
	"math/rand"
	"slices"
	"testing"

	"lariat/api"
	"lariat/chans"
)

// told: all that the first four calls tell of cells, with v as what is put.
type told struct {
	items       []int
	put         []int
	isPut       bool
	taken       []int
	first       int
	isTaken     bool
	isOfChannel bool
}

// anything: bounds that any int is within.
func anything(l []int) api.Chan {
	return api.Chan{Cap: len(l) - 1, Lo: math.MinInt, Hi: math.MaxInt}
}

func tell(t *testing.T, want told, l []int, v int) {
	t.Helper()
	kept := slices.Clone(l)
	if n := chans.Len(l); n != len(want.items) {
		t.Errorf("Len of %v = %d", l, n)
	}
	if items := chans.Items(l); !slices.Equal(items, want.items) {
		t.Errorf("Items of %v = %v", l, items)
	}
	if put, is := chans.Put(l, v); is != want.isPut || !slices.Equal(put, want.put) {
		t.Errorf("Put of %d to %v = %v, %v", v, l, put, is)
	}
	if taken, first, is := chans.Take(l); is != want.isTaken || first != want.first || !slices.Equal(taken, want.taken) {
		t.Errorf("Take of %v = %v, %d, %v", l, taken, first, is)
	}
	if is := chans.Right(l, anything(l), nil); is != want.isOfChannel {
		t.Errorf("Right of %v = %v", l, is)
	}
	if !slices.Equal(l, kept) {
		t.Errorf("changed: %v to %v", kept, l)
	}
}

// theTold: what is to be told, worked out by what the cells are of a queue of so many values; nothing, if they are of none.
func theTold(l []int, v int) told {
	for n := range len(l) {
		queue := l[1 : 1+n]
		if n != l[0] || !slices.Equal(l, row(len(l), queue...)) {
			continue
		}
		want := told{items: queue, isOfChannel: true}
		if n+1 < len(l) {
			want.put, want.isPut = row(len(l), append(slices.Clone(queue), v)...), true
		}
		if n > 0 {
			want.taken, want.first, want.isTaken = row(len(l), queue[1:]...), queue[0], true
		}
		return want
	}
	return told{}
}

// row: so many cells with these values.
func row(count int, values ...int) []int {
	l := append([]int{len(values)}, values...)
	return append(l, make([]int, count-len(l))...)
}

// The example.
func TestExample(t *testing.T) {
	if l, is := chans.Put([]int{1, 5, 0}, 7); !is || !slices.Equal(l, []int{2, 5, 7}) {
		t.Error(l, is)
	}
	if l, v, is := chans.Take([]int{2, 5, 7}); !is || v != 5 || !slices.Equal(l, []int{1, 7, 0}) {
		t.Error(l, v, is)
	}
}

// P19.1: told by hand: lists of cells, and lists that are none.
func TestByHand(t *testing.T) {
	tell(t, told{items: []int{5}, put: []int{2, 5, 7}, isPut: true, taken: []int{0, 0, 0}, first: 5, isTaken: true, isOfChannel: true}, []int{1, 5, 0}, 7)
	tell(t, told{items: []int{5, 6}, taken: []int{1, 6, 0}, first: 5, isTaken: true, isOfChannel: true}, []int{2, 5, 6}, 7)
	tell(t, told{put: []int{1, 7, 0}, isPut: true, isOfChannel: true}, []int{0, 0, 0}, 7)
	// A value may be 0, and any int.
	tell(t, told{items: []int{0}, put: []int{2, 0, 0}, isPut: true, taken: []int{0, 0, 0}, isTaken: true, isOfChannel: true}, []int{1, 0, 0}, 0)
	tell(t, told{items: []int{math.MinInt}, put: []int{2, math.MinInt, math.MaxInt}, isPut: true, taken: []int{0, 0, 0}, first: math.MinInt, isTaken: true, isOfChannel: true}, []int{1, math.MinInt, 0}, math.MaxInt)
	// No room at all.
	tell(t, told{isOfChannel: true}, []int{0}, 7)
	for _, l := range [][]int{nil, {}, {1}, {-1}, {2, 5}, {-1, 0}, {0, 5, 0}, {0, 0, 5}, {1, 5, 6}, {1, 0, 6}, {3, 5, 6}, {math.MaxInt, 0}, {math.MinInt, 0}, {math.MaxInt}, {math.MinInt}} {
		tell(t, told{}, l, 7)
	}
}

// P19.1: all lists of up to five numbers, of which some are far out.
func TestAll(t *testing.T) {
	rows := [][]int{nil}
	for range 5 {
		for _, l := range rows {
			tell(t, theTold(l, 7), l, 7)
			tell(t, theTold(l, 0), l, 0)
		}
		var longer [][]int
		for _, l := range rows {
			for _, x := range []int{math.MinInt, -1, 0, 1, 2, 3, 4, 5, math.MaxInt} {
				longer = append(longer, append(slices.Clone(l), x))
			}
		}
		rows = longer
	}
	for _, l := range rows {
		tell(t, theTold(l, -3), l, -3)
	}
}

// P19.1: more cells than any channel of a model has.
func TestLong(t *testing.T) {
	values := make([]int, 70000)
	for i := range values {
		values[i] = i - 5
	}
	for _, l := range [][]int{row(70001, values...), row(70002, values...), row(140000, values...)} {
		tell(t, theTold(l, 9), l, 9)
	}
	spoilt := row(140000, values...)
	spoilt[139999] = 1
	tell(t, told{}, spoilt, 9)
}

// scalars: one each of sizes 2, 3, and some that none of a model has.
func scalars() []api.Scalar {
	return []api.Scalar{{Name: "S", Size: 2}, {Name: "T", Size: 3}, {Size: 0}, {Size: -1}, {Size: math.MaxInt}, {Size: math.MinInt}}
}

func right(t *testing.T, want bool, l []int, c api.Chan, s []api.Scalar) {
	t.Helper()
	if got := chans.Right(l, c, s); got != want {
		t.Errorf("Right = %v of %v, %+v", got, l, c)
	}
}

// P19.2: as many cells as Cap asks, and one.
func TestRoom(t *testing.T) {
	for count := range 8 {
		l := make([]int, count)
		for _, room := range []int{math.MinInt, -2, -1, 0, 1, 2, 3, 4, 5, 6, 7, math.MaxInt} {
			right(t, count == room+1 && count > 0, l, api.Chan{Cap: room}, nil)
		}
	}
	right(t, true, []int{2, 0, 0}, api.Chan{Name: "?", Cap: 2, Lossy: true}, nil)
	right(t, false, []int{2, 0}, api.Chan{Cap: 2}, nil)
	right(t, false, []int{3, 0, 0}, api.Chan{Cap: 2}, nil)
	right(t, false, []int{1, 0, 1}, api.Chan{Cap: 2, Hi: 1}, nil)
	right(t, false, []int{-1, 0, 0}, api.Chan{Cap: 2, Hi: 1}, nil)
}

// P19.2: values of numbers, and of elements; what stands behind them is 0 even where that is no value.
func TestValues(t *testing.T) {
	far := []int{math.MinInt, -4, -3, -2, -1, 0, 1, 2, 3, 4, 5, math.MaxInt}
	for _, a := range far {
		for _, b := range far {
			for _, x := range [][2]int{{0, 0}, {2, 3}, {-3, -2}, {-1, 1}, {3, 2}, {math.MinInt, math.MaxInt}, {math.MaxInt, math.MinInt}} {
				in := func(v int) bool { return x[0] <= v && v <= x[1] }
				c := api.Chan{Cap: 2, Lo: x[0], Hi: x[1]}
				right(t, in(a) && in(b), []int{2, a, b}, c, scalars())
				right(t, in(a) && b == 0, []int{1, a, b}, c, nil)
				right(t, a == 0 && b == 0, []int{0, a, b}, c, nil)
			}
			for k, s := range scalars() {
				in := func(v int) bool { return 0 <= v && v <= s.Size }
				c := api.Chan{Cap: 2, Scalar: 1 + k, Lo: 1, Hi: 1}
				right(t, in(a) && in(b), []int{2, a, b}, c, scalars())
				right(t, in(a) && b == 0, []int{1, a, b}, c, scalars())
				right(t, a == 0 && b == 0, []int{0, a, b}, c, scalars())
			}
		}
	}
}

// P19.2: a Scalar that is none, even of no values.
func TestNoScalar(t *testing.T) {
	for _, l := range [][]int{{0, 0, 0}, {1, 0, 0}, {1, 1, 0}, {2, 1, 1}} {
		for _, scalar := range []int{math.MinInt, -1, 7, 8, math.MaxInt} {
			right(t, false, l, api.Chan{Cap: 2, Scalar: scalar, Hi: 9}, scalars())
		}
		right(t, true, l, api.Chan{Cap: 2, Scalar: 1}, scalars()[:1])
		right(t, false, l, api.Chan{Cap: 2, Scalar: 2}, scalars()[:1])
		right(t, false, l, api.Chan{Cap: 2, Scalar: 1, Hi: 9}, nil)
	}
}

// P19.3: what is put and taken by chance, held against a list.
func TestFirstInFirstOut(t *testing.T) {
	chance := rand.New(rand.NewSource(19))
	for range 300 {
		count := 1 + chance.Intn(7)
		l := make([]int, count)
		var queue []int
		for range 60 {
			if chance.Intn(2) == 0 {
				v := chance.Intn(7) - 3
				put, is := chans.Put(l, v)
				if is != (len(queue)+1 < count) {
					t.Fatal("Put to", l, "=", is)
				}
				if is {
					l, queue = put, append(queue, v)
				}
			} else {
				taken, v, is := chans.Take(l)
				if is != (len(queue) > 0) || is && v != queue[0] {
					t.Fatal("Take of", l, "=", v, is, "not of", queue)
				}
				if is {
					l, queue = taken, queue[1:]
				}
			}
			if !slices.Equal(l, row(count, queue...)) {
				t.Fatal(l, "not of", queue)
			}
		}
	}
}

// spoil changes what a list has, and has room for behind its end.
func spoil(l []int) {
	whole := l[:cap(l)]
	for i := range whole {
		whole[i] = 99
	}
}

// The rules that hold everywhere: what is handed in stays, with what lies behind it; what is answered is new.
func TestNew(t *testing.T) {
	for held := range 5 {
		whole := row(8, []int{4, 5, 6, 7}[:held]...)
		whole[5], whole[6], whole[7] = 1, 2, 3
		want := slices.Clone(whole)
		l := whole[:5]
		unchanged := func() {
			t.Helper()
			if !slices.Equal(whole, want) {
				t.Fatal("changed:", whole)
			}
		}
		spoil(chans.Items(l))
		unchanged()
		put, _ := chans.Put(l, 9)
		unchanged()
		spoil(put)
		unchanged()
		taken, _, _ := chans.Take(l)
		unchanged()
		spoil(taken)
		unchanged()
		tell(t, theTold(l, 7), l, 7)
	}
}
