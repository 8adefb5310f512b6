package fire_test

import (
	"math"
	"reflect"
	"slices"
	"strconv"
	"testing"

	"lariat/api"
	"lariat/fire"
	"lariat/model"
	"lariat/state"
)

// e: an expression of nodes, each an Op and its N.
func e(numbers ...int) []api.Node {
	var l []api.Node
	for at := 0; at < len(numbers); at += 2 {
		l = append(l, api.Node{Op: numbers[at], N: numbers[at+1]})
	}
	return l
}

// n: the number x.
func n(x int) []api.Node {
	return e(api.XNum, x)
}

// truth: a guard that is always true, or always false.
func truth(is bool) []api.Node {
	if is {
		return e(api.XNum, 0, api.XNum, 0, api.XEq, 0)
	}
	return e(api.XNum, 0, api.XNum, 1, api.XEq, 0)
}

// without: a guard, and a number, that can't be had.
func without() ([]api.Node, []api.Node) {
	number := e(api.XNum, api.MaxNum, api.XNum, 1, api.XAdd, 0)
	return append(slices.Clone(number), number[0], api.Node{Op: api.XEq}), number
}

func set(to int, value []api.Node) api.Act {
	return api.Act{Kind: api.ActSet, To: to, Value: value}
}

func item(to int, index, value []api.Node) api.Act {
	return api.Act{Kind: api.ActItem, To: to, Index: index, Value: value}
}

func let(to int, value []api.Node) api.Act {
	return api.Act{Kind: api.ActLocal, To: to, Value: value}
}

func send(to int, value []api.Node) api.Act {
	return api.Act{Kind: api.ActSend, To: to, Value: value}
}

func recv(to, local int) api.Act {
	return api.Act{Kind: api.ActRecv, To: to, Local: local}
}

// theModel: variables x (-4 to 9), y (0 to 5, of each of two elements), o (an element), q (an element of each of two);
// channels c (2 to 3, two, lossy), d (elements, one), z (-3 to -2, one, lossy); a process P of two instances with
// locals a (0 to 5) and b (an element), 3 locations, and those commands; a process Q alone, of 2 locations. 20 cells:
// x 0; y 1, 2; o 3; q 4, 5; c 6 to 8; d 9, 10; z 11, 12; P 13 to 15, 16 to 18; Q 19.
func theModel(cmds ...api.Cmd) api.Model {
	for i := range cmds {
		cmds[i].Name = "go" + strconv.Itoa(i)
	}
	return api.Model{
		Scalars: []api.Scalar{{Name: "S", Size: 2}},
		Vars:    []api.Var{{Name: "x", Lo: -4, Hi: 9}, {Name: "y", Over: 1, Hi: 5}, {Name: "o", Scalar: 1}, {Name: "q", Scalar: 1, Over: 1}},
		Chans:   []api.Chan{{Name: "c", Cap: 2, Lo: 2, Hi: 3, Lossy: true}, {Name: "d", Cap: 1, Scalar: 1}, {Name: "z", Cap: 1, Lo: -3, Hi: -2, Lossy: true}},
		Procs: []api.Proc{
			{Name: "P", Over: 1, Locs: 3, Vars: []api.Var{{Name: "a", Hi: 5}, {Name: "b", Scalar: 1}}, Cmds: cmds},
			{Name: "Q", Locs: 2},
		},
		Props: []api.Prop{{Name: "p", Expr: truth(true)}},
	}
}

// acts: theModel with one command from 0 to 0 of those acts.
func acts(l ...api.Act) api.Model {
	return theModel(api.Cmd{Acts: l})
}

// s: the first state of theModel, with some cells changed: each its number, and what it has.
func s(changes ...int) []int {
	l := make([]int, 20)
	for at := 0; at < len(changes); at += 2 {
		l[changes[at]] = changes[at+1]
	}
	return l
}

// maybe: m and s are what a call may be asked of.
func maybe(t *testing.T, m api.Model, s []int) {
	t.Helper()
	if f := model.Check(m); f != (api.Fault{}) || !state.Right(m, s) {
		t.Fatalf("%+v, %v", f, s)
	}
}

// leads: ref, done in that way, leads from one to the other.
func leads(t *testing.T, m api.Model, from []int, ref, way int, to []int) {
	t.Helper()
	maybe(t, m, from)
	if !fire.On(m, from, ref) {
		t.Errorf("%d is not on in %v", ref, from)
	}
	if l, why := fire.Do(m, from, ref, way); why != api.OK || !slices.Equal(l, to) {
		t.Errorf("Do of %d, %d = %v, %v, not %v", ref, way, l, why, to)
	}
	if !slices.ContainsFunc(fire.Moves(m, from), func(v api.Move) bool { return v.Cmd == ref && v.Way == way && slices.Equal(v.To, to) }) {
		t.Errorf("no move by %d, %d: %v", ref, way, fire.Moves(m, from))
	}
	if l, why := fire.Follow(m, from, []api.Step{{Cmd: ref, Way: way}}); why != api.OK || len(l) != 1 || !slices.Equal(l[0], to) {
		t.Errorf("Follow of %d, %d = %v, %v, not %v", ref, way, l, why, to)
	}
	if !state.Right(m, to) {
		t.Error("not right:", to)
	}
}

// off: ref is not on there.
func off(t *testing.T, m api.Model, from []int, ref int) {
	t.Helper()
	maybe(t, m, from)
	if fire.On(m, from, ref) {
		t.Errorf("%d is on in %v", ref, from)
	}
	doing(t, api.ErrOff, m, from, ref, 0)
	if slices.ContainsFunc(fire.Moves(m, from), func(v api.Move) bool { return v.Cmd == ref }) {
		t.Errorf("%d moves: %v", ref, fire.Moves(m, from))
	}
	following(t, api.ErrOff, m, from, api.Step{Cmd: ref})
}

func doing(t *testing.T, want api.Errno, m api.Model, from []int, ref, way int) {
	t.Helper()
	if l, why := fire.Do(m, from, ref, way); why != want || len(l) != 0 {
		t.Errorf("Do of %d, %d = %v, %v, not %v", ref, way, l, why, want)
	}
}

func following(t *testing.T, want api.Errno, m api.Model, from []int, steps ...api.Step) {
	t.Helper()
	if l, why := fire.Follow(m, from, steps); why != want || len(l) != 0 {
		t.Errorf("Follow of %v = %v, %v, not %v", steps, l, why, want)
	}
}

func moves(t *testing.T, m api.Model, from []int, want ...api.Move) {
	t.Helper()
	maybe(t, m, from)
	if l := fire.Moves(m, from); !slices.EqualFunc(l, want, sameMove) {
		t.Errorf("Moves of %v = %v, not %v", from, l, want)
	}
}

func sameMove(a, b api.Move) bool {
	return a.Cmd == b.Cmd && a.Way == b.Way && slices.Equal(a.To, b.To)
}

// The example.
func TestExample(t *testing.T) {
	m := api.Model{
		Chans: []api.Chan{{Name: "c", Cap: 1, Hi: 1, Lossy: true}},
		Procs: []api.Proc{{Name: "P", Locs: 2, Cmds: []api.Cmd{{Name: "go", To: 1, Acts: []api.Act{send(0, n(1))}}}}},
	}
	moves(t, m, []int{0, 0, 0}, api.Move{To: []int{1, 1, 1}}, api.Move{Way: 1, To: []int{0, 0, 1}})
	moves(t, m, []int{0, 0, 1}, api.Move{Cmd: -1, To: []int{0, 0, 1}})
	moves(t, m, []int{1, 1, 0}, api.Move{Cmd: -1, To: []int{1, 1, 0}})
	leads(t, m, []int{0, 0, 0}, 0, 0, []int{1, 1, 1})
	leads(t, m, []int{0, 0, 0}, 0, 1, []int{0, 0, 1})
	off(t, m, []int{0, 0, 1}, 0)
	off(t, m, []int{1, 0, 0}, 0)
}

// P20.1: where its instance is, and what it goes to.
func TestLocations(t *testing.T) {
	for from := range 3 {
		for to := range 3 {
			m := theModel(api.Cmd{From: from, To: to, Fair: true})
			for first := range 3 {
				for second := range 3 {
					now := s(13, first, 16, second)
					if first == from {
						leads(t, m, now, 0, 0, s(13, to, 16, second))
					} else {
						off(t, m, now, 0)
					}
					if second == from {
						leads(t, m, now, 1, 0, s(13, first, 16, to))
					} else {
						off(t, m, now, 1)
					}
				}
			}
		}
	}
}

// P20.1: guards: none, true, false, and ones that can't be had.
func TestGuards(t *testing.T) {
	leads(t, theModel(api.Cmd{To: 1}), s(), 0, 0, s(13, 1))
	leads(t, theModel(api.Cmd{To: 1, Guard: e()}), s(), 0, 0, s(13, 1))
	leads(t, theModel(api.Cmd{To: 1, Guard: truth(true)}), s(), 0, 0, s(13, 1))
	off(t, theModel(api.Cmd{To: 1, Guard: truth(false)}), s(), 0)
	guard, _ := without()
	off(t, theModel(api.Cmd{Guard: guard}), s(), 0)
	off(t, theModel(api.Cmd{Guard: append(guard, api.Node{Op: api.XNot})}), s(), 0)
	// y of o, which may be none.
	m := theModel(api.Cmd{To: 1, Guard: e(api.XVar, 2, api.XItem, 1, api.XNum, 4, api.XEq, 0)})
	off(t, m, s(1, 4, 2, 4), 0)
	off(t, m, s(2, 4, 3, 1), 0)
	leads(t, m, s(1, 4, 3, 1), 0, 0, s(1, 4, 3, 1, 13, 1))
	off(t, m, s(1, 4, 3, 2), 1)
	leads(t, m, s(2, 4, 3, 2), 1, 0, s(2, 4, 3, 2, 16, 1))
	// The own element, own locals, how many a channel has, how many are at a location.
	m = theModel(api.Cmd{To: 1, Guard: e(api.XSelf, 0, api.XVar, 2, api.XEq, 0)})
	leads(t, m, s(3, 1), 0, 0, s(3, 1, 13, 1))
	off(t, m, s(3, 1), 1)
	leads(t, m, s(3, 2), 1, 0, s(3, 2, 16, 1))
	off(t, m, s(3, 2), 0)
	m = theModel(api.Cmd{To: 1, Guard: e(api.XLocal, 0, api.XNum, 3, api.XEq, 0, api.XLocal, 1, api.XSelf, 0, api.XEq, 0, api.XAnd, 0)})
	leads(t, m, s(14, 3, 15, 1), 0, 0, s(13, 1, 14, 3, 15, 1))
	off(t, m, s(14, 3, 15, 1), 1)
	leads(t, m, s(17, 3, 18, 2), 1, 0, s(16, 1, 17, 3, 18, 2))
	off(t, m, s(17, 3, 18, 1), 1)
	m = theModel(api.Cmd{To: 1, Guard: e(api.XLen, 0, api.XNum, 2, api.XEq, 0)})
	leads(t, m, s(6, 2, 7, 2, 8, 3), 0, 0, s(6, 2, 7, 2, 8, 3, 13, 1))
	off(t, m, s(6, 1, 7, 2), 0)
	m = theModel(api.Cmd{To: 1, Guard: e(api.XAt, 0, api.XNum, 2, api.XEq, 0, api.XAt, 16+1, api.XNum, 1, api.XEq, 0, api.XAnd, 0)})
	leads(t, m, s(19, 1), 0, 0, s(13, 1, 19, 1))
	off(t, m, s(19, 1, 16, 1), 0)
	off(t, m, s(), 0)
}

// P20.1, P20.2: acts that give a value to a variable, to one of an element, to a local.
func TestCells(t *testing.T) {
	_, none := without()
	for x := -7; x <= 12; x++ {
		inX, inY := -4 <= x && x <= 9, 0 <= x && x <= 5
		for _, l := range []struct {
			is   bool
			act  api.Act
			cell int
		}{
			{inX, set(0, n(x)), 0},
			{inY, item(1, e(api.XSelf, 0), n(x)), 1},
			{inY, let(0, n(x)), 14},
		} {
			if l.is {
				leads(t, acts(l.act), s(), 0, 0, s(l.cell, x))
			} else {
				off(t, acts(l.act), s(), 0)
			}
		}
	}
	for _, far := range []int{-api.MaxNum, api.MaxNum} {
		off(t, acts(set(0, n(far))), s(), 0)
		off(t, acts(item(1, e(api.XSelf, 0), n(far))), s(), 0)
		off(t, acts(let(0, n(far))), s(), 0)
	}
	off(t, acts(set(0, none)), s(), 0)
	off(t, acts(item(1, e(api.XSelf, 0), none)), s(), 0)
	off(t, acts(let(0, none)), s(), 0)
	// Elements, of which none is one.
	leads(t, acts(set(2, e(api.XSelf, 0))), s(3, 1), 1, 0, s(3, 2))
	leads(t, acts(set(2, e(api.XNone, 0))), s(3, 2), 0, 0, s())
	leads(t, acts(item(3, e(api.XSelf, 0), e(api.XVar, 2))), s(3, 2), 0, 0, s(3, 2, 4, 2))
	leads(t, acts(item(3, e(api.XSelf, 0), e(api.XNone, 0))), s(4, 1, 5, 2), 1, 0, s(4, 1))
	leads(t, acts(let(1, e(api.XSelf, 0))), s(), 1, 0, s(18, 2))
	leads(t, acts(let(1, e(api.XNone, 0))), s(15, 1, 18, 1), 1, 0, s(15, 1))
	// Another instance's.
	leads(t, acts(let(0, n(5))), s(), 1, 0, s(17, 5))
	leads(t, acts(item(1, e(api.XSelf, 0), n(5))), s(), 1, 0, s(2, 5))
}

// P20.1, P20.2: which cell an index tells.
func TestIndex(t *testing.T) {
	m := acts(item(1, e(api.XVar, 2), n(3)))
	off(t, m, s(), 0)
	leads(t, m, s(3, 1), 0, 0, s(3, 1, 1, 3))
	leads(t, m, s(3, 2), 0, 0, s(3, 2, 2, 3))
	off(t, acts(item(1, e(api.XNone, 0), n(3))), s(), 0)
	// q of o; where o is none it can't be had.
	m = acts(item(1, e(api.XVar, 2, api.XItem, 3), n(3)))
	off(t, m, s(4, 1, 5, 1), 0)
	off(t, m, s(3, 1, 5, 1), 0)
	leads(t, m, s(3, 1, 4, 2), 0, 0, s(3, 1, 4, 2, 2, 3))
	leads(t, m, s(3, 2, 5, 1), 0, 0, s(3, 2, 5, 1, 1, 3))
}

// P20.1, P20.2, P20.6: what is sent, and lost.
func TestSend(t *testing.T) {
	for x := -5; x <= 6; x++ {
		m := acts(send(0, n(x)))
		if x == 2 || x == 3 {
			leads(t, m, s(), 0, 0, s(6, 1, 7, x))
			leads(t, m, s(), 0, 1, s())
			leads(t, m, s(6, 1, 7, 3), 0, 0, s(6, 2, 7, 3, 8, x))
			leads(t, m, s(6, 1, 7, 3), 0, 1, s(6, 1, 7, 3))
		} else {
			off(t, m, s(), 0)
			off(t, m, s(6, 1, 7, 3), 0)
		}
		off(t, m, s(6, 2, 7, 3, 8, 2), 0)
		// 0 is no value of this one, though its cells have it.
		m = acts(send(2, n(x)))
		if x == -3 || x == -2 {
			leads(t, m, s(), 0, 0, s(11, 1, 12, x))
			leads(t, m, s(), 0, 1, s())
		} else {
			off(t, m, s(), 0)
		}
		off(t, m, s(11, 1, 12, -2), 0)
	}
	_, none := without()
	off(t, acts(send(0, none)), s(), 0)
	// There must be room even for what is lost.
	full := s(6, 2, 7, 3, 8, 2)
	doing(t, api.ErrOff, acts(send(0, n(2))), full, 0, 1)
	following(t, api.ErrOff, acts(send(0, n(2))), full, api.Step{Way: 1})
	// Elements, by a channel that loses nothing.
	m := acts(send(1, e(api.XVar, 2)))
	leads(t, m, s(), 0, 0, s(9, 1))
	leads(t, m, s(3, 2), 0, 0, s(3, 2, 9, 1, 10, 2))
	off(t, m, s(9, 1), 0)
	doing(t, api.ErrArg, m, s(), 0, 1)
	following(t, api.ErrOff, m, s(), api.Step{Way: 1})
}

// P20.1, P20.2: what is received.
func TestReceive(t *testing.T) {
	m := acts(recv(0, 0))
	off(t, m, s(), 0)
	leads(t, m, s(6, 1, 7, 3), 0, 0, s(14, 3))
	leads(t, m, s(6, 2, 7, 3, 8, 2, 17, 1), 1, 0, s(6, 1, 7, 2, 17, 3))
	// A lossy channel loses nothing that comes out of it.
	doing(t, api.ErrArg, m, s(6, 1, 7, 3), 0, 1)
	following(t, api.ErrOff, m, s(6, 1, 7, 3), api.Step{Way: 1})
	off(t, acts(recv(2, 0)), s(11, 1, 12, -2), 0)
	m = acts(recv(0, 0))
	m.Procs[0].Vars[0].Hi = 2
	off(t, m, s(6, 1, 7, 3), 0)
	leads(t, m, s(6, 1, 7, 2), 0, 0, s(14, 2))
	m = acts(recv(1, 1))
	off(t, m, s(), 1)
	leads(t, m, s(9, 1, 18, 2), 1, 0, s())
	leads(t, m, s(9, 1, 10, 2), 1, 0, s(18, 2))
}

// P20.2: each act is done upon what those ahead of it made; a later one that can't be done leaves nothing done.
func TestInOrder(t *testing.T) {
	more := e(api.XVar, 0, api.XNum, 1, api.XAdd, 0)
	leads(t, acts(set(0, more), set(0, more), let(0, e(api.XVar, 0)), item(1, e(api.XSelf, 0), e(api.XLocal, 0)), set(0, more)), s(0, 1), 0, 0, s(0, 4, 14, 3, 1, 3))
	off(t, acts(set(0, more), set(0, more)), s(0, 8), 0)
	leads(t, acts(set(0, more)), s(0, 8), 0, 0, s(0, 9))
	// What an act made without bounds can't be taken back by a later one.
	off(t, acts(set(0, n(10)), set(0, n(1))), s(), 0)
	// An index, and an item, that an act ahead of it made.
	leads(t, acts(set(2, e(api.XSelf, 0)), item(1, e(api.XVar, 2), n(4)), set(0, e(api.XVar, 2, api.XItem, 1))), s(3, 1), 1, 0, s(3, 2, 2, 4, 0, 4))
	off(t, acts(set(2, e(api.XNone, 0)), item(1, e(api.XVar, 2), n(4))), s(3, 1), 0)
	// An index is as it was ahead of its own act.
	leads(t, acts(item(3, e(api.XSelf, 0, api.XItem, 3), e(api.XNone, 0))), s(4, 2, 5, 1), 0, 0, s(4, 2))
	// How many values a channel has, behind what sends and receives.
	lens := set(0, e(api.XLen, 0))
	leads(t, acts(lens, send(0, n(2)), let(0, e(api.XLen, 0))), s(6, 1, 7, 3), 0, 0, s(0, 1, 6, 2, 7, 3, 8, 2, 14, 2))
	leads(t, acts(recv(0, 0), lens), s(0, 5, 6, 2, 7, 3, 8, 2), 0, 0, s(0, 1, 6, 1, 7, 2, 14, 3))
	leads(t, acts(recv(0, 0), set(0, e(api.XLocal, 0))), s(6, 1, 7, 3), 0, 0, s(0, 3, 14, 3))
	off(t, acts(recv(0, 0), let(0, e(api.XLocal, 0, api.XNum, 3, api.XAdd, 0))), s(6, 1, 7, 3), 0)
	// What is sent is made by acts ahead of it.
	leads(t, acts(set(0, n(2)), send(0, more)), s(), 0, 0, s(0, 2, 6, 1, 7, 3))
	off(t, acts(set(0, n(3)), send(0, more)), s(0, 1), 0)
}

// P20.2: locations are, for all acts, as they were ahead.
func TestLocationsLast(t *testing.T) {
	m := theModel(api.Cmd{To: 1, Acts: []api.Act{set(0, e(api.XAt, 0)), let(0, e(api.XAt, 1)), item(1, e(api.XSelf, 0), e(api.XAt, 16))}})
	leads(t, m, s(), 0, 0, s(0, 2, 14, 0, 1, 1, 13, 1))
	leads(t, m, s(13, 1, 14, 5), 1, 0, s(13, 1, 14, 5, 0, 1, 17, 1, 2, 1, 16, 1))
}

// P20.2, P20.6: of way 1 all but the channel is as of way 0, even what the acts asked of the channel.
func TestLost(t *testing.T) {
	m := theModel(api.Cmd{To: 2, Acts: []api.Act{set(0, n(7)), send(0, n(3)), let(0, e(api.XLen, 0))}})
	leads(t, m, s(6, 1, 7, 2), 0, 0, s(0, 7, 6, 2, 7, 2, 8, 3, 13, 2, 14, 2))
	leads(t, m, s(6, 1, 7, 2), 0, 1, s(0, 7, 6, 1, 7, 2, 13, 2, 14, 2))
	off(t, theModel(api.Cmd{Acts: []api.Act{send(0, n(3)), set(0, n(10))}}), s(), 0)
	doing(t, api.ErrOff, theModel(api.Cmd{Acts: []api.Act{send(0, n(3)), set(0, n(10))}}), s(), 0, 1)
}

// P20.3: refs rising, of each its ways; where none is on, one move by nothing.
func TestMoves(t *testing.T) {
	m := theModel(api.Cmd{To: 1}, api.Cmd{Guard: truth(false)}, api.Cmd{Acts: []api.Act{send(0, n(2))}}, api.Cmd{From: 1, To: 2})
	m.Procs[1].Cmds = []api.Cmd{{Name: "q", To: 1}}
	moves(t, m, s(),
		api.Move{Cmd: 0, To: s(13, 1)}, api.Move{Cmd: 2, To: s(6, 1, 7, 2)}, api.Move{Cmd: 2, Way: 1, To: s()},
		api.Move{Cmd: 4, To: s(16, 1)}, api.Move{Cmd: 6, To: s(6, 1, 7, 2)}, api.Move{Cmd: 6, Way: 1, To: s()},
		api.Move{Cmd: 8, To: s(19, 1)})
	moves(t, m, s(13, 1, 16, 2, 19, 1), api.Move{Cmd: 3, To: s(13, 2, 16, 2, 19, 1)})
	moves(t, m, s(0, 5, 13, 2, 16, 2, 19, 1), api.Move{Cmd: -1, To: s(0, 5, 13, 2, 16, 2, 19, 1)})
	// Models without commands, and without anything.
	moves(t, theModel(), s(), api.Move{Cmd: -1, To: s()})
	moves(t, api.Model{}, nil, api.Move{Cmd: -1})
	moves(t, api.Model{Scalars: m.Scalars, Props: m.Props}, []int{}, api.Move{Cmd: -1})
	moves(t, api.Model{Vars: m.Vars[:1]}, []int{9}, api.Move{Cmd: -1, To: []int{9}})
}

// P20.4
func TestFollow(t *testing.T) {
	m := theModel(api.Cmd{To: 1, Acts: []api.Act{send(0, n(2))}}, api.Cmd{From: 1, To: 2, Acts: []api.Act{recv(0, 0)}})
	steps := []api.Step{{Cmd: 0}, {Cmd: 2, Way: 1}, {Cmd: 3}, {Cmd: -1}, {Cmd: -1}}
	want := [][]int{s(6, 1, 7, 2, 13, 1), s(6, 1, 7, 2, 13, 1, 16, 1), s(13, 1, 16, 2, 17, 2), s(13, 1, 16, 2, 17, 2), s(13, 1, 16, 2, 17, 2)}
	maybe(t, m, s())
	for count := range len(steps) + 1 {
		if l, why := fire.Follow(m, s(), steps[:count]); why != api.OK || !slices.EqualFunc(l, want[:count], slices.Equal) {
			t.Error(l, why)
		}
		// A step there that is none of Moves', whatever came ahead.
		for _, bad := range []api.Step{{Cmd: -2}, {Cmd: 4}, {Cmd: math.MaxInt}, {Cmd: math.MinInt}, {Way: -1}, {Way: 2}, {Way: math.MaxInt}, {Cmd: -1, Way: 1}, {Cmd: -1, Way: -1}} {
			following(t, api.ErrOff, m, s(), append(slices.Clone(steps[:count]), bad)...)
			following(t, api.ErrOff, m, s(), append(append(slices.Clone(steps[:count]), bad), steps...)...)
		}
		if count < 3 {
			following(t, api.ErrOff, m, s(), append(slices.Clone(steps[:count]), api.Step{Cmd: -1})...)
		}
	}
	following(t, api.ErrOff, m, s(), api.Step{Cmd: 1})
	following(t, api.ErrOff, m, s(), api.Step{Cmd: 3})
	following(t, api.ErrOff, m, s(), api.Step{}, api.Step{})
	if l, why := fire.Follow(api.Model{}, nil, make([]api.Step, 1)); why != api.ErrOff || len(l) != 0 {
		t.Error(l, why)
	}
	if l, why := fire.Follow(api.Model{}, nil, []api.Step{{Cmd: -1}, {Cmd: -1}}); why != api.OK || len(l) != 2 || len(l[0]) != 0 {
		t.Error(l, why)
	}
}

// refused: nothing may be asked there, whatever the ref, the way, the steps.
func refused(t *testing.T, m api.Model, from []int) {
	t.Helper()
	for _, x := range []int{-1, 0, 1, 9, math.MinInt, math.MaxInt} {
		if fire.On(m, from, x) {
			t.Error("On of", x, from)
		}
		doing(t, api.ErrArg, m, from, x, 0)
		doing(t, api.ErrArg, m, from, 0, x)
		following(t, api.ErrArg, m, from, api.Step{Cmd: x})
	}
	following(t, api.ErrArg, m, from)
	if l := fire.Moves(m, from); len(l) != 0 {
		t.Error(l, from)
	}
}

// P20.1 to P20.4: models that may not be, states that are not right, refs and ways that are not there.
func TestRefused(t *testing.T) {
	m := acts(send(0, n(2)))
	for _, spoil := range []func(m *api.Model){
		func(m *api.Model) { m.Scalars[0].Size = 5 },
		func(m *api.Model) { m.Scalars = nil },
		func(m *api.Model) { m.Vars[0].Name = "" },
		func(m *api.Model) { m.Vars[1].Over = math.MaxInt },
		func(m *api.Model) { m.Chans[0].Cap = math.MaxInt },
		func(m *api.Model) { m.Procs[0].Locs = 0 },
		func(m *api.Model) { m.Procs[0].Cmds[0].From = 3 },
		func(m *api.Model) { m.Procs[0].Cmds[0].To = -1 },
		func(m *api.Model) { m.Procs[0].Cmds[0].Guard = n(1) },
		func(m *api.Model) { m.Procs[0].Cmds[0].Acts[0].Kind = 6 },
		func(m *api.Model) { m.Procs[0].Cmds[0].Acts[0].To = 3 },
		func(m *api.Model) { m.Procs[0].Cmds[0].Acts[0].Value = nil },
		func(m *api.Model) { m.Procs[0].Cmds[0].Acts = append(m.Procs[0].Cmds[0].Acts, recv(0, 0)) },
		func(m *api.Model) { m.Procs = append(m.Procs, make([]api.Proc, 70000)...) },
		func(m *api.Model) { m.Props[0].Expr = nil },
	} {
		bad := model.Copy(m)
		spoil(&bad)
		for _, from := range [][]int{nil, {}, s(), make([]int, 70000)} {
			refused(t, bad, from)
		}
	}
	refused(t, api.Model{Props: []api.Prop{{}}}, nil)
	for _, from := range [][]int{nil, {}, s()[1:], append(s(), 0), s(0, 10), s(0, -5), s(7, 2), s(6, 1), s(6, 3), s(13, 3), s(13, -1), s(19, math.MaxInt), make([]int, 70000)} {
		refused(t, m, from)
	}
	refused(t, api.Model{}, []int{0})
	// Of what may be: refs 0 and 1, each in two ways.
	for _, x := range []int{-1, 2, 3, 9, math.MinInt, math.MaxInt} {
		if fire.On(m, s(), x) {
			t.Error("On of", x)
		}
		doing(t, api.ErrArg, m, s(), x, 0)
		doing(t, api.ErrArg, m, s(), 0, x)
		doing(t, api.ErrArg, m, s(), 1, x)
	}
	doing(t, api.ErrArg, theModel(), s(), 0, 0)
	doing(t, api.ErrArg, api.Model{}, nil, 0, 0)
	doing(t, api.ErrArg, api.Model{}, nil, -1, 0)
	// That a way is not there is told ahead of that it is not on.
	doing(t, api.ErrArg, m, s(13, 1), 0, 2)
	doing(t, api.ErrArg, m, s(13, 1), 0, -1)
	doing(t, api.ErrOff, m, s(13, 1), 0, 0)
	doing(t, api.ErrOff, m, s(13, 1), 0, 1)
	doing(t, api.ErrArg, theModel(api.Cmd{From: 1}), s(), 0, 1)
}

// spoil changes what a list has, and has room for behind its end.
func spoil(l []int) {
	whole := l[:cap(l)]
	for i := range whole {
		whole[i] = 99
	}
}

// The rules that hold everywhere: what is handed in stays as it is, what is answered is new.
func TestNew(t *testing.T) {
	made := func() api.Model {
		return theModel(api.Cmd{To: 1, Guard: truth(true), Acts: []api.Act{set(0, n(5)), send(0, n(2))}}, api.Cmd{From: 1, To: 2, Acts: []api.Act{recv(0, 0)}})
	}
	m := made()
	for _, from := range [][]int{s(), s(6, 1, 7, 2, 13, 1), s(13, 2, 16, 2)} {
		now := append(slices.Clone(from), 7, 7)[:len(from)]
		unchanged := func() {
			t.Helper()
			if !reflect.DeepEqual(m, made()) || !slices.Equal(now[:len(from)+2], append(slices.Clone(from), 7, 7)) {
				t.Fatal("changed")
			}
		}
		fresh := fire.Moves(m, now)
		for i := range fresh {
			l := fire.Moves(m, now)
			spoil(l[i].To)
			unchanged()
			for j := range l {
				if i != j && !sameMove(l[j], fresh[j]) {
					t.Error("move", j, "is spoilt by", i)
				}
			}
		}
		for _, v := range fresh {
			if v.Cmd >= 0 {
				l, _ := fire.Do(m, now, v.Cmd, v.Way)
				spoil(l)
				unchanged()
			}
			steps := []api.Step{{Cmd: v.Cmd, Way: v.Way}}
			for next := v.To; len(steps) < 5; {
				move := fire.Moves(m, next)[0]
				steps = append(steps, api.Step{Cmd: move.Cmd, Way: move.Way})
				next = move.To
			}
			fresh, _ := fire.Follow(m, now, steps)
			for i := range fresh {
				l, _ := fire.Follow(m, now, steps)
				spoil(l[i])
				unchanged()
				for j := range l {
					if i != j && !slices.Equal(l[j], fresh[j]) {
						t.Error("state", j, "is spoilt by", i)
					}
				}
			}
		}
	}
}
