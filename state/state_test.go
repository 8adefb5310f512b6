package state_test

import (
	"math"
	"reflect"
	"slices"
	"strconv"
	"testing"

	"lariat/api"
	"lariat/model"
	"lariat/state"
)

// theModel: a model that may be, with something in each list there is; 20 cells, 6 instances.
func theModel() api.Model {
	truth := []api.Node{{Op: api.XNum}, {Op: api.XNum}, {Op: api.XEq}}
	return api.Model{
		Scalars: []api.Scalar{{Name: "S", Size: 2}, {Name: "T", Size: 3}},
		Vars:    []api.Var{{Name: "x", Lo: -4, Hi: 3, Init: -2}, {Name: "y", Scalar: 1, Over: 2, Init: 2}},
		Chans:   []api.Chan{{Name: "c", Cap: 2, Lo: 2, Hi: 3, Lossy: true}, {Name: "d", Scalar: 2, Cap: 1, Lo: -9, Hi: -9}},
		Procs: []api.Proc{
			{Name: "P", Over: 1, Locs: 2, Vars: []api.Var{{Name: "a", Lo: 6, Hi: 9, Init: 7}, {Name: "b", Scalar: 2, Init: 1}}, Cmds: []api.Cmd{{Name: "go", To: 1, Guard: truth}}},
			{Name: "Q", Over: 2, Locs: 12},
			{Name: "R", Locs: 1, Vars: []api.Var{{Name: "a", Scalar: 1}}},
		},
		Props: []api.Prop{{Name: "p", Expr: truth}},
	}
}

// theState: a right state of theModel, unlike the first one.
func theState() []int {
	return []int{3, 1, 0, 2, 1, 3, 0, 1, 2, 0, 8, 3, 1, 6, 0, 5, 0, 5, 0, 1}
}

// spoilt: theModel in some ways in which it may not be, and others.
func spoilt() []api.Model {
	l := []api.Model{{Props: []api.Prop{{}}}, {Procs: make([]api.Proc, 70000)}, {Scalars: make([]api.Scalar, 3)}}
	for _, do := range []func(m *api.Model){
		func(m *api.Model) { m.Scalars[1].Size = 0 },
		func(m *api.Model) { m.Scalars = nil },
		func(m *api.Model) { m.Vars[0].Init = 4 },
		func(m *api.Model) { m.Vars[0].Lo, m.Vars[0].Hi = math.MinInt, math.MaxInt },
		func(m *api.Model) { m.Vars[1].Over = 3 },
		func(m *api.Model) { m.Chans[0].Cap = math.MaxInt },
		func(m *api.Model) { m.Chans[1].Cap = math.MinInt },
		func(m *api.Model) { m.Chans[1].Scalar = -1 },
		func(m *api.Model) { m.Procs[0].Locs = 0 },
		func(m *api.Model) { m.Procs[0].Cmds[0].To = 2 },
		func(m *api.Model) { m.Procs[2].Vars[0].Over = 1 },
		func(m *api.Model) { m.Procs[1].Over = 9 },
		func(m *api.Model) { m.Props[0].Expr = nil },
		func(m *api.Model) { m.Props[0].Name = "x" },
	} {
		m := theModel()
		do(&m)
		l = append(l, m)
	}
	return l
}

// sameEnv: a and b say the same; a list of nothing may be nil or not.
func sameEnv(a, b api.Env) bool {
	return slices.EqualFunc(a.Vars, b.Vars, slices.Equal) && slices.Equal(a.Lens, b.Lens) && slices.Equal(a.Locals, b.Locals) && slices.EqualFunc(a.At, b.At, slices.Equal) && a.Self == b.Self
}

func right(t *testing.T, want bool, m api.Model, s []int) {
	t.Helper()
	if got := state.Right(m, s); got != want {
		t.Errorf("Right = %v of %v", got, s)
	}
	if want {
		return
	}
	for inst := -2; inst < 8; inst++ {
		if v := state.Env(m, s, inst); !sameEnv(v, api.Env{}) {
			t.Errorf("Env of %v = %v", s, v)
		}
	}
	wrong := api.ErrForm
	if model.Check(m) != (api.Fault{}) {
		wrong = api.ErrArg
	}
	if b, why := state.Bytes(m, s); len(b) != 0 || why != wrong {
		t.Errorf("Bytes of %v = %v, %v", s, b, why)
	}
}

// P18.1, P18.5
func TestFirst(t *testing.T) {
	want := []int{-2, 2, 2, 2, 0, 0, 0, 0, 0, 0, 7, 1, 0, 7, 1, 0, 0, 0, 0, 0}
	if s := state.First(theModel()); !slices.Equal(s, want) {
		t.Error(s)
	}
	right(t, true, theModel(), want)
	for _, m := range []api.Model{{}, {Scalars: theModel().Scalars, Props: theModel().Props}} {
		if s := state.First(m); len(s) != 0 {
			t.Error(s)
		}
		right(t, true, m, nil)
		right(t, true, m, []int{})
		right(t, false, m, []int{0})
	}
	for _, m := range spoilt() {
		if s := state.First(m); len(s) != 0 {
			t.Error(s)
		}
		for _, s := range [][]int{nil, {}, {0}, want, theState()} {
			right(t, false, m, s)
		}
	}
}

// P18.1: how many numbers a state has.
func TestLength(t *testing.T) {
	m := theModel()
	right(t, true, m, theState())
	for n := range theState() {
		right(t, false, m, theState()[:n])
	}
	right(t, false, m, append(theState(), 0))
	right(t, false, m, nil)
	right(t, false, m, make([]int, 70000))
	right(t, false, m, append(theState(), theState()...))
}

// P18.1: the bounds of what is no channel's, cell by cell.
func TestBounds(t *testing.T) {
	lo := map[int]int{0: -4, 10: 6, 13: 6}
	hi := map[int]int{0: 3, 1: 2, 2: 2, 3: 2, 9: 1, 10: 9, 11: 3, 12: 1, 13: 9, 14: 3, 15: 11, 16: 11, 17: 11, 18: 0, 19: 2}
	for cell := range theState() {
		if 4 <= cell && cell <= 8 {
			continue
		}
		for _, x := range []int{math.MinInt, -api.MaxNum, lo[cell] - 1, hi[cell] + 1, api.MaxNum, math.MaxInt} {
			s := theState()
			s[cell] = x
			right(t, false, theModel(), s)
		}
		for x := lo[cell]; x <= hi[cell]; x++ {
			s := theState()
			s[cell] = x
			right(t, true, theModel(), s)
		}
	}
}

// P18.1: what a channel has: of 2 to 3, two at most; of elements of a scalar of 3, one at most.
func TestChannels(t *testing.T) {
	var rows [][]int
	for _, held := range []int{math.MinInt, -1, 0, 1, 2, 3, 4, math.MaxInt} {
		for _, a := range []int{math.MinInt, -3, -1, 0, 1, 2, 3, 4, 5, math.MaxInt} {
			for _, b := range []int{math.MinInt, -3, -1, 0, 1, 2, 3, 4, 5, math.MaxInt} {
				rows = append(rows, []int{held, a, b})
			}
		}
	}
	numbers := [][]int{{0, 0, 0}, {1, 2, 0}, {1, 3, 0}, {2, 2, 2}, {2, 2, 3}, {2, 3, 2}, {2, 3, 3}}
	elements := [][]int{{0, 0}, {1, 0}, {1, 1}, {1, 2}, {1, 3}}
	for _, row := range rows {
		s := theState()
		copy(s[4:], row)
		right(t, slices.ContainsFunc(numbers, func(l []int) bool { return slices.Equal(l, row) }), theModel(), s)
		s = theState()
		copy(s[7:], row[:2])
		right(t, slices.ContainsFunc(elements, func(l []int) bool { return slices.Equal(l, row[:2]) }), theModel(), s)
	}
	// All below 0, and on both sides of it: 0 is a value where it is between Lo and Hi alone.
	for _, x := range []struct {
		lo, hi int
		right  [][]int
	}{
		{-3, -2, [][]int{{0, 0, 0}, {1, -3, 0}, {1, -2, 0}, {2, -3, -3}, {2, -3, -2}, {2, -2, -3}, {2, -2, -2}}},
		{-1, 1, [][]int{{0, 0, 0}, {1, -1, 0}, {1, 0, 0}, {1, 1, 0}, {2, -1, -1}, {2, -1, 0}, {2, -1, 1}, {2, 0, -1}, {2, 0, 0}, {2, 0, 1}, {2, 1, -1}, {2, 1, 0}, {2, 1, 1}}},
	} {
		m := api.Model{Chans: []api.Chan{{Name: "c", Cap: 2, Lo: x.lo, Hi: x.hi}}}
		for _, row := range rows {
			right(t, slices.ContainsFunc(x.right, func(l []int) bool { return slices.Equal(l, row) }), m, row)
		}
	}
}

// P18.2
func TestEnv(t *testing.T) {
	vars := [][]int{{3}, {1, 0, 2}}
	lens := []int{1, 1}
	at := [][]int{{1, 1}, {1, 0, 0, 0, 0, 2, 0, 0, 0, 0, 0, 0}, {1}}
	for inst, x := range map[int]struct {
		locals []int
		self   int
	}{-1: {}, 0: {[]int{8, 3}, 1}, 1: {[]int{6, 0}, 2}, 2: {nil, 1}, 3: {nil, 2}, 4: {nil, 3}, 5: {[]int{1}, 0}} {
		want := api.Env{Vars: vars, Lens: lens, Locals: x.locals, At: at, Self: x.self}
		if v := state.Env(theModel(), theState(), inst); !sameEnv(v, want) {
			t.Errorf("Env of %d = %v, not %v", inst, v, want)
		}
	}
	for _, inst := range []int{-2, 6, 7, 20, math.MinInt, math.MaxInt} {
		if v := state.Env(theModel(), theState(), inst); !sameEnv(v, api.Env{}) {
			t.Errorf("Env of %d = %v", inst, v)
		}
	}
	want := api.Env{Vars: [][]int{{-2}, {2, 2, 2}}, Lens: []int{0, 0}, Locals: []int{7, 1}, At: [][]int{{2, 0}, {3, 0, 0, 0, 0, 0, 0, 0, 0, 0, 0, 0}, {1}}, Self: 2}
	if v := state.Env(theModel(), state.First(theModel()), 1); !sameEnv(v, want) {
		t.Error(v)
	}
	for inst := -2; inst < 2; inst++ {
		if v := state.Env(api.Model{}, nil, inst); !sameEnv(v, api.Env{}) {
			t.Error(v)
		}
	}
}

// spoil changes what a list has, and has room for behind its end.
func spoil[T any](l []T, to T) {
	whole := l[:cap(l)]
	for i := range whole {
		whole[i] = to
	}
}

// The rules that hold everywhere: what is handed in stays as it is, what is answered is new.
func TestNew(t *testing.T) {
	m, s := theModel(), theState()
	unchanged := func() {
		t.Helper()
		if !reflect.DeepEqual(m, theModel()) || !slices.Equal(s, theState()) {
			t.Fatal("changed")
		}
	}
	first := state.First(m)
	want := slices.Clone(first)
	spoil(first, 99)
	if again := state.First(m); !slices.Equal(again, want) {
		t.Error(again)
	}
	unchanged()
	lists := func(v api.Env) [][]int {
		return slices.Concat(v.Vars, [][]int{v.Lens, v.Locals}, v.At)
	}
	fresh := lists(state.Env(m, s, 0))
	for i := range fresh {
		l := lists(state.Env(m, s, 0))
		spoil(l[i], 99)
		for j := range l {
			if i != j && !slices.Equal(l[j], fresh[j]) {
				t.Error("list", j, "is spoilt by list", i)
			}
		}
		unchanged()
	}
	b, _ := state.Bytes(m, s)
	kept := slices.Clone(b)
	spoil(b, 99)
	again, _ := state.Bytes(m, s)
	if !slices.Equal(again, kept) {
		t.Error(again)
	}
	unchanged()
	back, why := state.Back(m, again)
	if !slices.Equal(again, kept) || !slices.Equal(back, s) || why != api.OK {
		t.Error(again, back)
	}
	spoil(back, 99)
	if back, _ = state.Back(m, kept); !slices.Equal(back, s) {
		t.Error(back)
	}
	// What lies behind a list's length plays no part.
	long := append(theState(), 7)
	right(t, true, m, long[:20])
	right(t, true, m, slices.Concat([]int{5}, theState(), []int{5})[1:21])
	if back, why := state.Back(m, append(slices.Clone(kept), 7)[:len(kept)]); !slices.Equal(back, s) || why != api.OK {
		t.Error(back, why)
	}
	m.Vars, m.Chans, m.Procs = m.Vars[:1], m.Chans[:0], m.Procs[:1]
	m.Procs[0].Vars = m.Procs[0].Vars[:1]
	if s := state.First(m); !slices.Equal(s, []int{-2, 0, 7, 0, 7}) {
		t.Error(s)
	}
}

// small: the model of the example, with other bounds and locations.
func small(lo, hi, locs int) api.Model {
	return api.Model{Vars: []api.Var{{Name: "x", Lo: lo, Hi: hi, Init: lo}}, Procs: []api.Proc{{Name: "P", Locs: locs}}}
}

func bytesOf(t *testing.T, m api.Model, s []int, want ...byte) {
	t.Helper()
	if b, why := state.Bytes(m, s); why != api.OK || !slices.Equal(b, want) {
		t.Errorf("Bytes of %v = %v, %v, not %v", s, b, why, want)
	}
	if l, why := state.Back(m, want); why != api.OK || !slices.Equal(l, s) {
		t.Errorf("Back of %v = %v, %v, not %v", want, l, why, s)
	}
}

func refused(t *testing.T, why api.Errno, m api.Model, b ...byte) {
	t.Helper()
	if l, got := state.Back(m, b); got != why || len(l) != 0 {
		t.Errorf("Back of %v = %v, %v, not %v", b, l, got, why)
	}
}

// P18.3: the example, and others told by hand.
func TestBytes(t *testing.T) {
	bytesOf(t, small(0, 3, 1), []int{2, 0}, 2)
	bytesOf(t, small(0, 3, 2), []int{2, 0}, 4)
	bytesOf(t, small(0, 3, 2), []int{2, 1}, 5)
	bytesOf(t, small(-5, -2, 2), []int{-5, 1}, 1)
	bytesOf(t, small(5, 8, 2), []int{8, 1}, 7)
	// As many bytes as the greatest has: 256 numbers, and 257 or more.
	bytesOf(t, small(0, 255, 1), []int{255, 0}, 255)
	bytesOf(t, small(0, 127, 2), []int{127, 1}, 255)
	bytesOf(t, small(0, 128, 2), []int{0, 0}, 0, 0)
	bytesOf(t, small(0, 128, 2), []int{128, 1}, 1, 1)
	bytesOf(t, small(0, 255, 2), []int{128, 0}, 1, 0)
	bytesOf(t, small(0, 255, 2), []int{255, 1}, 1, 255)
	bytesOf(t, small(-200, 55, 12), []int{55, 11}, 11, 255)
	// None, if there is but one number.
	bytesOf(t, small(7, 7, 1), []int{7, 0})
	bytesOf(t, api.Model{}, nil)
	refused(t, api.ErrLong, small(7, 7, 1), 0)
	refused(t, api.ErrLong, api.Model{}, 0)
}

// P18.3: what bytes may not be, and in which order that is told.
func TestBack(t *testing.T) {
	m := small(0, 128, 2)
	refused(t, api.ErrShort, m)
	refused(t, api.ErrShort, m, 0)
	refused(t, api.ErrShort, m, 255)
	refused(t, api.ErrLong, m, 0, 0, 0)
	refused(t, api.ErrLong, m, 255, 255, 255)
	refused(t, api.ErrLong, m, make([]byte, 70000)...)
	refused(t, api.ErrRange, m, 1, 2)
	refused(t, api.ErrRange, m, 2, 0)
	refused(t, api.ErrRange, m, 255, 255)
	for _, m := range spoilt() {
		for _, b := range [][]byte{nil, {0}, {1, 2, 3}} {
			refused(t, api.ErrArg, m, b...)
		}
	}
	// A channel of 3 to 4 with room for one: its cells have bases 2 and 5.
	c := api.Model{Chans: []api.Chan{{Name: "c", Cap: 1, Lo: 3, Hi: 4}}}
	bytesOf(t, c, []int{0, 0}, 0)
	bytesOf(t, c, []int{1, 3}, 8)
	bytesOf(t, c, []int{1, 4}, 9)
	for _, n := range []byte{1, 2, 3, 4, 5, 6, 7} {
		refused(t, api.ErrForm, c, n)
	}
	refused(t, api.ErrRange, c, 10)
	refused(t, api.ErrRange, c, 255)
	// One of -4 to -3: its cell begins at -4, so that 0 there is 4.
	c.Chans[0].Lo, c.Chans[0].Hi = -4, -3
	bytesOf(t, c, []int{0, 0}, 4)
	bytesOf(t, c, []int{1, -4}, 5)
	bytesOf(t, c, []int{1, -3}, 6)
	for _, n := range []byte{0, 1, 2, 3, 7, 8, 9} {
		refused(t, api.ErrForm, c, n)
	}
	refused(t, api.ErrRange, c, 10)
}

// P18.3: numbers far beyond MaxNum: 16 values of 2^20 + 1 numbers each have 320 binary digits, and some.
func TestGreat(t *testing.T) {
	var m api.Model
	for i := range api.MaxChans {
		m.Chans = append(m.Chans, api.Chan{Name: "c" + strconv.Itoa(i), Cap: api.MaxCap, Lo: api.MaxNum - 1, Hi: api.MaxNum})
	}
	m.Scalars = []api.Scalar{{Name: "S", Size: 4}}
	for i := range 11 {
		m.Vars = append(m.Vars, api.Var{Name: "v" + strconv.Itoa(i), Over: 1, Lo: -255, Init: -255})
	}
	s := state.First(m)
	if len(s) != api.MaxCells {
		t.Fatal(len(s))
	}
	there(t, m, s)
	for i := range s {
		s[i] = api.MaxNum
		if i < 44 {
			s[i] = 0
		} else if (i-44)%5 == 0 {
			s[i] = api.MaxCap
		}
	}
	there(t, m, s)
	s[43], s[48], s[63] = -1, api.MaxNum-1, api.MaxNum-1
	there(t, m, s)
}
