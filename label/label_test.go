package label_test

import (
	"math"
	"reflect"
	"slices"
	"strconv"
	"testing"

	"lariat/api"
	"lariat/label"
	"lariat/model"
	"lariat/state"
)

// e: an expression of nodes, each an Op and its N.
func e(numbers ...int) []api.Node {
	var l []api.Node
	for at := 0; at < len(numbers); at += 2 {
		l = append(l, api.Node{Op: numbers[at], N: numbers[at+1]})
	}
	return l
}

// is: e says that number.
func is(e []api.Node, x int) []api.Node {
	return append(slices.Clone(e), api.Node{Op: api.XNum, N: x}, api.Node{Op: api.XEq})
}

// never: a truth that can't be had.
func never() []api.Node {
	return e(api.XNum, api.MaxNum, api.XNum, 1, api.XAdd, 0, api.XNum, 0, api.XLe, 0, api.XNot, 0)
}

// theModel: with those propositions; variables x (-4 to 3), y (5 to 9, of each of three elements of T), o (an element of
// T), q (an element of S, of each of two); channels c (2 to 3, two), d (an element of T); a process P of two instances
// with a local a, 2 locations; Q of three, 12 locations; R alone. 22 cells: x 0; y 1 to 3; o 4; q 5, 6; c 7 to 9; d 10, 11;
// P 12, 13 and 14, 15; Q 16, 17, 18; R 19, its local 20 and 21.
func theModel(props ...[]api.Node) api.Model {
	m := api.Model{
		Scalars: []api.Scalar{{Name: "S", Size: 2}, {Name: "T", Size: 3}},
		Vars:    []api.Var{{Name: "x", Lo: -4, Hi: 3}, {Name: "y", Over: 2, Lo: 5, Hi: 9, Init: 5}, {Name: "o", Scalar: 2}, {Name: "q", Scalar: 1, Over: 1}},
		Chans:   []api.Chan{{Name: "c", Cap: 2, Lo: 2, Hi: 3, Lossy: true}, {Name: "d", Scalar: 2, Cap: 1}},
		Procs: []api.Proc{
			{Name: "P", Over: 1, Locs: 2, Vars: []api.Var{{Name: "a", Hi: 5}}, Cmds: []api.Cmd{{Name: "go", To: 1, Guard: is(e(api.XLen, 1), 1)}}},
			{Name: "Q", Over: 2, Locs: 12},
			{Name: "R", Locs: 1, Vars: []api.Var{{Name: "a", Scalar: 1}, {Name: "b", Lo: 1, Hi: 1, Init: 1}}},
		},
	}
	for i, p := range props {
		m.Props = append(m.Props, api.Prop{Name: "p" + strconv.Itoa(i), Expr: p})
	}
	return m
}

// s: a right state of theModel, with some cells changed: each its number, and what it has.
func s(changes ...int) []int {
	l := []int{0, 5, 5, 5, 0, 0, 0, 0, 0, 0, 0, 0, 0, 0, 0, 0, 0, 0, 0, 0, 0, 1}
	for at := 0; at < len(changes); at += 2 {
		l[changes[at]] = changes[at+1]
	}
	return l
}

// spoilt: theModel in some ways in which it may not be, and others.
func spoilt() []api.Model {
	l := []api.Model{{Props: []api.Prop{{}}}, {Procs: make([]api.Proc, 70000)}, {Scalars: make([]api.Scalar, 3)}}
	for _, do := range []func(m *api.Model){
		func(m *api.Model) { m.Scalars[1].Size = 0 },
		func(m *api.Model) { m.Scalars = nil },
		func(m *api.Model) { m.Vars[0].Init = 4 },
		func(m *api.Model) { m.Vars[0].Lo, m.Vars[0].Hi = math.MinInt, math.MaxInt },
		func(m *api.Model) { m.Vars[1].Over = 3 },
		func(m *api.Model) { m.Chans[0].Cap = math.MaxInt },
		func(m *api.Model) { m.Chans[1].Scalar = -1 },
		func(m *api.Model) { m.Procs[0].Locs = 0 },
		func(m *api.Model) { m.Procs[0].Cmds[0].To = 2 },
		func(m *api.Model) { m.Procs[1].Over = math.MinInt },
		func(m *api.Model) { m.Props[0].Expr = nil },
		func(m *api.Model) { m.Props[0].Expr = e(api.XVar, 0) },
		func(m *api.Model) { m.Props[0].Expr = is(e(api.XVar, 4), 0) },
		func(m *api.Model) { m.Props[0].Expr = is(e(api.XVar, 1), 5) },
		func(m *api.Model) { m.Props[0].Expr = is(e(api.XVar, 0, api.XItem, 0), 5) },
		func(m *api.Model) { m.Props[0].Expr = is(e(api.XLocal, 0), 0) },
		func(m *api.Model) { m.Props[0].Expr = is(e(api.XAt, -1), 0) },
		func(m *api.Model) { m.Props[0].Expr = is(e(api.XAt, math.MaxInt), 0) },
		func(m *api.Model) { m.Props[0].Expr = is(e(api.XLen, math.MinInt), 0) },
		func(m *api.Model) { m.Props[0].Name = "x" },
		func(m *api.Model) { m.Props = append(m.Props, m.Props[0]) },
	} {
		m := theModel(is(e(api.XVar, 0), 0))
		do(&m)
		l = append(l, m)
	}
	return l
}

func of(t *testing.T, want uint64, m api.Model, s []int) {
	t.Helper()
	if !state.Right(m, s) {
		t.Fatal("not right:", s, model.Check(m))
	}
	if set, why := label.Of(m, s); set != want || why != api.OK {
		t.Errorf("Of %v = %b, %v, not %b", s, set, why, want)
	}
	if l := label.Words(m, [][]int{s}); !slices.Equal(l, []uint64{want}) {
		t.Errorf("Words of %v = %b, not %b", s, l, want)
	}
}

func refused(t *testing.T, want api.Errno, m api.Model, s []int) {
	t.Helper()
	if set, why := label.Of(m, s); set != 0 || why != want {
		t.Errorf("Of %v = %b, %v, not %v", s, set, why, want)
	}
	if l := label.Words(m, [][]int{s, s}); !slices.Equal(l, []uint64{0, 0}) {
		t.Errorf("Words of %v = %b", s, l)
	}
}

// The example.
func TestExample(t *testing.T) {
	m := api.Model{Vars: []api.Var{{Name: "w", Hi: 3}, {Name: "x", Hi: 3}, {Name: "z", Hi: 3}}, Props: []api.Prop{{Name: "p", Expr: is(e(api.XVar, 1), 1)}}}
	for x := range 4 {
		want := uint64(0)
		if x == 1 {
			want = 1
		}
		of(t, want, m, []int{1, x, 1})
	}
	if l := label.Sees(m); !slices.Equal(l, []bool{false, true, false}) {
		t.Error(l)
	}
}

// P21.1: each thing that a proposition may speak of.
func TestOf(t *testing.T) {
	for x := -4; x <= 3; x++ {
		m := theModel(is(e(api.XVar, 0), x))
		for now := -4; now <= 3; now++ {
			of(t, map[bool]uint64{true: 1}[x == now], m, s(0, now))
		}
	}
	m := theModel(is(e(api.XVar, 2, api.XItem, 1), 7), is(e(api.XVar, 2, api.XItem, 1), 5))
	of(t, 0, m, s(1, 7, 2, 7, 3, 7))
	of(t, 1, m, s(1, 7, 4, 1))
	of(t, 1, m, s(3, 7, 4, 3))
	of(t, 2, m, s(3, 7, 4, 2))
	of(t, 0, m, s(3, 8, 4, 3))
	m = theModel(e(api.XVar, 2, api.XNone, 1, api.XEq, 0), e(api.XVar, 2, api.XNone, 1, api.XNe, 0))
	of(t, 1, m, s())
	of(t, 2, m, s(4, 3))
	m = theModel(is(e(api.XLen, 0), 2), is(e(api.XLen, 1), 1), is(e(api.XLen, 0), 0))
	of(t, 4, m, s())
	of(t, 1, m, s(7, 2, 8, 3, 9, 2))
	of(t, 2, m, s(7, 1, 8, 3, 10, 1, 11, 0))
	m = theModel(is(e(api.XAt, 1), 1), is(e(api.XAt, 16+11), 2), is(e(api.XAt, 32), 1), is(e(api.XAt, 0), 2), is(e(api.XAt, 16), 0))
	of(t, 1<<2|1<<3, m, s())
	of(t, 1<<0|1<<2, m, s(14, 1))
	of(t, 1<<2, m, s(12, 1, 14, 1))
	of(t, 1<<1|1<<2|1<<3|1<<4, m, s(16, 11, 17, 3, 18, 11))
}

// P21.1: of each proposition its own bit, of those whose value can't be had none.
func TestBits(t *testing.T) {
	yes, no := is(e(api.XVar, 0), 3), is(e(api.XVar, 0), 2)
	for set := range 1 << api.MaxProps {
		var props [][]api.Node
		for i := range api.MaxProps {
			switch {
			case set>>i&1 == 1:
				props = append(props, yes)
			case i%2 == 0:
				props = append(props, no)
			default:
				props = append(props, never())
			}
		}
		of(t, uint64(set), theModel(props...), s(0, 3))
	}
	of(t, 0, theModel(), s())
	// Either side alone could be had.
	or := append(append(never(), yes...), api.Node{Op: api.XOr})
	of(t, 2, theModel(or, yes, never()), s(0, 3))
	of(t, 0, api.Model{}, nil)
	of(t, 2, api.Model{Props: []api.Prop{{Name: "p", Expr: is(e(api.XNum, 1), 0)}, {Name: "q", Expr: is(e(api.XNum, 1), 1)}}}, []int{})
}

// P21.1: ErrArg, then ErrForm.
func TestRefused(t *testing.T) {
	for _, m := range spoilt() {
		if model.Check(m) == (api.Fault{}) {
			t.Error("it may be:", m)
		}
		for _, s := range [][]int{nil, {}, {0}, s(), s(0, 9), s()[1:]} {
			refused(t, api.ErrArg, m, s)
		}
	}
	m := theModel(is(e(api.XVar, 0), 0))
	of(t, 1, m, s())
	for _, s := range [][]int{nil, s()[1:], append(s(), 0), s(0, 4), s(0, -5), s(1, 0), s(4, 4), s(5, -1), s(7, 1), s(7, 3, 8, 2, 9, 2), s(7, -1), s(8, 2), s(10, 1, 11, 4), s(12, 2), s(16, 12), s(19, 1), s(20, 3), s(21, 0), s(0, math.MaxInt), s(13, math.MinInt)} {
		refused(t, api.ErrForm, m, s)
	}
	refused(t, api.ErrForm, api.Model{}, []int{0})
}

// P21.1: Words are of each state what Of tells, wrong ones among them.
func TestWords(t *testing.T) {
	m := theModel(is(e(api.XVar, 0), 1), is(e(api.XLen, 1), 0))
	states := [][]int{s(0, 1), nil, s(), s(0, 1, 10, 1, 11, 2), s(0, 9), s(0, 1), s()[:3], s(10, 1)}
	if l := label.Words(m, states); !slices.Equal(l, []uint64{3, 0, 2, 1, 0, 3, 0, 0}) {
		t.Error(l)
	}
	if l := label.Words(m, nil); len(l) != 0 {
		t.Error(l)
	}
	if l := label.Words(api.Model{Props: []api.Prop{{}}}, states); !slices.Equal(l, make([]uint64, len(states))) {
		t.Error(l)
	}
	if l := label.Words(api.Model{}, [][]int{{}, nil, {1}}); !slices.Equal(l, make([]uint64, 3)) {
		t.Error(l)
	}
}

// P21.2
func TestSees(t *testing.T) {
	for _, l := range []struct {
		props [][]api.Node
		cells []int
	}{
		{nil, nil},
		{[][]api.Node{is(e(api.XNum, 0), 0), never()}, nil},
		{[][]api.Node{e(api.XNone, 0, api.XNone, 0, api.XEq, 0)}, nil},
		{[][]api.Node{is(e(api.XVar, 0), 0)}, []int{0}},
		{[][]api.Node{e(api.XVar, 2, api.XNone, 1, api.XEq, 0)}, []int{4}},
		{[][]api.Node{is(e(api.XNone, 1, api.XItem, 1), 0)}, []int{1, 2, 3}},
		{[][]api.Node{is(e(api.XVar, 2, api.XItem, 1), 0)}, []int{1, 2, 3, 4}},
		{[][]api.Node{e(api.XNone, 0, api.XItem, 3, api.XItem, 3, api.XNone, 0, api.XEq, 0)}, []int{5, 6}},
		{[][]api.Node{is(e(api.XLen, 0), 0)}, []int{7}},
		{[][]api.Node{is(e(api.XLen, 1), 0)}, []int{10}},
		{[][]api.Node{is(e(api.XAt, 0), 0)}, []int{12, 14}},
		{[][]api.Node{is(e(api.XAt, 1), 0), is(e(api.XAt, 0), 1)}, []int{12, 14}},
		{[][]api.Node{is(e(api.XAt, 16+11), 0)}, []int{16, 17, 18}},
		{[][]api.Node{is(e(api.XAt, 32), 0)}, []int{19}},
		{[][]api.Node{is(e(api.XVar, 0), 0), never(), is(e(api.XLen, 1), 0), is(e(api.XAt, 32), 1)}, []int{0, 10, 19}},
		{[][]api.Node{append(is(e(api.XAt, 16), 0), append(is(e(api.XLen, 0), 7), e(api.XOr, 0)...)...)}, []int{7, 16, 17, 18}},
		{[][]api.Node{append(is(e(api.XVar, 0, api.XVar, 0, api.XSub, 0), 0), e(api.XNot, 0)...)}, []int{0}},
	} {
		want := make([]bool, 22)
		for _, cell := range l.cells {
			want[cell] = true
		}
		m := theModel(l.props...)
		if f := model.Check(m); f != (api.Fault{}) {
			t.Fatal(f, l.props)
		}
		if got := label.Sees(m); !slices.Equal(got, want) {
			t.Error(got, l.props)
		}
	}
	// What commands read alone is not seen.
	m := theModel()
	m.Procs[0].Cmds = append(m.Procs[0].Cmds, api.Cmd{Name: "on", Guard: is(e(api.XVar, 0), 0)})
	if got := label.Sees(m); !slices.Equal(got, make([]bool, 22)) {
		t.Error(got)
	}
	for _, m := range append(spoilt(), api.Model{}, api.Model{Scalars: theModel().Scalars, Props: []api.Prop{{Name: "p", Expr: never()}}}) {
		if got := label.Sees(m); len(got) != 0 {
			t.Error(got, m)
		}
	}
}

// What is handed in stays as it is, what is answered is new.
func TestNew(t *testing.T) {
	m, l := theModel(is(e(api.XVar, 0), 1), is(e(api.XAt, 0), 2)), [][]int{s(0, 1), s()}
	sees, words := label.Sees(m), label.Words(m, l)
	again, also := slices.Clone(sees), slices.Clone(words)
	clear(sees)
	clear(words)
	if got := label.Sees(m); !slices.Equal(got, again) {
		t.Error(got)
	}
	if got := label.Words(m, l); !slices.Equal(got, also) || !slices.Equal(got, []uint64{3, 2}) {
		t.Error(got)
	}
	if _, why := label.Of(m, l[0]); why != api.OK {
		t.Error(why)
	}
	if !reflect.DeepEqual(m, theModel(is(e(api.XVar, 0), 1), is(e(api.XAt, 0), 2))) || !reflect.DeepEqual(l, [][]int{s(0, 1), s()}) {
		t.Error("changed:", m, l)
	}
}
