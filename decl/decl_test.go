package decl_test

import (
	"math"
	"slices"
	"strings"
	"testing"

	"lariat/api"
	"lariat/decl"
)

// theScalars: of 2, of 4, of too few, of too many.
func theScalars() []api.Scalar {
	return []api.Scalar{{Name: "S", Size: 2}, {Name: "T", Size: api.MaxSize}, {Name: "none", Size: 0}, {Size: api.MaxSize + 1}}
}

// sizes: of a Scalar, or an Over, the size of the scalar of theScalars that there is.
func sizes() map[int]int {
	return map[int]int{1: 2, 2: 4}
}

// raw: numbers that are no scalar of theScalars, 0 left out.
func raw() []int {
	return []int{3, 4, 5, 6, -1, -2, math.MaxInt, math.MinInt}
}

// badNames: texts that are no names.
func badNames() []string {
	return []string{"", "9", "_a", "a b", "a-b", " a", "a ", "é", "aé", "\xff", "self", "none", "len", "at", strings.Repeat("a", api.MaxName+1), strings.Repeat("a", 70000)}
}

// goodNames: texts that are names.
func goodNames() []string {
	return []string{"a", "Z", "a_", "a9_Z", "selfs", "Self", "ats", "of", "over", "proc", strings.Repeat("a", api.MaxName)}
}

// told: what a call tells of a list.
type told struct {
	at  int
	why api.Errno
}

func scalars(t *testing.T, want told, l ...api.Scalar) {
	t.Helper()
	if at, why := decl.Scalars(l); (told{at, why}) != want {
		t.Errorf("Scalars(%v) = %d, %v, not %v", l, at, why, want)
	}
}

func vars(t *testing.T, want told, most int, l ...api.Var) {
	t.Helper()
	if at, why := decl.Vars(l, theScalars(), most); (told{at, why}) != want {
		t.Errorf("Vars(%v, %d) = %d, %v, not %v", l, most, at, why, want)
	}
}

func chans(t *testing.T, want told, l ...api.Chan) {
	t.Helper()
	if at, why := decl.Chans(l, theScalars()); (told{at, why}) != want {
		t.Errorf("Chans(%v) = %d, %v, not %v", l, at, why, want)
	}
}

func scalar(name string, size int) api.Scalar {
	return api.Scalar{Name: name, Size: size}
}

// number: a variable of numbers.
func number(name string, lo, hi, init int) api.Var {
	return api.Var{Name: name, Lo: lo, Hi: hi, Init: init}
}

// element: a variable of elements, with bounds that play no part.
func element(name string, scalar, over, init int) api.Var {
	return api.Var{Name: name, Scalar: scalar, Over: over, Init: init, Lo: math.MaxInt, Hi: math.MinInt}
}

// channel: a channel of numbers.
func channel(name string, room, lo, hi int) api.Chan {
	return api.Chan{Name: name, Cap: room, Lo: lo, Hi: hi}
}

// P12.1
func TestScalars(t *testing.T) {
	scalars(t, told{})
	scalars(t, told{}, scalar("S", 1))
	scalars(t, told{}, scalar("S", api.MaxSize), scalar("s", 2))
	scalars(t, told{1, api.ErrTwice}, scalar("S", 2), scalar("S", 3))
	scalars(t, told{2, api.ErrMany}, scalar("S", 1), scalar("T", 1), scalar("U", 1))
	for _, size := range []int{0, -1, api.MaxSize + 1, math.MaxInt, math.MinInt} {
		scalars(t, told{0, api.ErrRange}, scalar("S", size))
		scalars(t, told{1, api.ErrRange}, scalar("S", 1), scalar("T", size))
	}
	for _, name := range badNames() {
		scalars(t, told{0, api.ErrName}, scalar(name, 1))
		scalars(t, told{1, api.ErrName}, scalar("S", 1), scalar(name, 1))
	}
	for _, name := range goodNames() {
		scalars(t, told{}, scalar(name, 1))
	}
}

// P12.1: of several errors the first one, of several that are wrong the first.
func TestOrderOfScalars(t *testing.T) {
	scalars(t, told{2, api.ErrMany}, scalar("S", 1), scalar("T", 1), scalar("", 0))
	scalars(t, told{2, api.ErrMany}, scalar("S", 1), scalar("T", 1), scalar("S", 9), scalar("", 0))
	scalars(t, told{0, api.ErrName}, scalar("", 0), scalar("T", 1), scalar("U", 1))
	scalars(t, told{1, api.ErrTwice}, scalar("S", 1), scalar("S", 0), scalar("U", 1))
	scalars(t, told{0, api.ErrRange}, scalar("S", 0), scalar("S", 0))
	scalars(t, told{0, api.ErrRange}, scalar("S", 0), scalar("", 1))
	scalars(t, told{0, api.ErrRange}, slices.Repeat([]api.Scalar{scalar("S", 0)}, 70000)...)
}

// P12.2: numbers, at the edges of what they may be.
func TestVarsOfNumbers(t *testing.T) {
	const most, least = api.MaxNum, -api.MaxNum
	for _, x := range []struct {
		lo, hi, init int
		is           bool
	}{
		{0, 0, 0, true}, {0, 3, 0, true}, {0, 3, 3, true}, {0, 3, 4, false}, {0, 3, -1, false}, {-2, -1, -2, true}, {-2, -1, 0, false}, {-2, 2, 0, true},
		{0, 255, 9, true}, {0, 256, 9, false}, {-128, 127, 0, true}, {-129, 127, 0, false}, {1, 0, 0, false}, {1, 0, 1, false}, {2, 0, 1, false},
		{most, most, most, true}, {most, most + 1, most, false}, {most + 1, most + 1, most + 1, false}, {most - 255, most, most, true}, {most - 256, most, most, false},
		{least, least, least, true}, {least - 1, least, least, false}, {least - 1, least - 1, least - 1, false}, {least, least + 255, least, true}, {least, least + 256, least, false},
		{least, most, 0, false}, {math.MinInt, math.MaxInt, 0, false}, {math.MinInt, math.MinInt, math.MinInt, false}, {math.MaxInt, math.MaxInt, math.MaxInt, false},
		{0, math.MaxInt, 0, false}, {math.MinInt, 0, 0, false}, {math.MaxInt, math.MinInt, 0, false}, {math.MinInt, math.MinInt + 5, math.MinInt, false},
		{0, 5, math.MaxInt, false}, {0, 5, math.MinInt, false}, {-5, math.MaxInt, 0, false},
	} {
		want := told{1, api.ErrRange}
		if x.is {
			want = told{}
		}
		vars(t, want, 2, number("a", 0, 1, 1), number("x", x.lo, x.hi, x.init))
		over := number("x", x.lo, x.hi, x.init)
		over.Over = 2
		vars(t, want, 2, number("a", 0, 1, 1), over)
	}
	vars(t, told{0, api.ErrRange}, 12, number("x", 0, 256, 0))
}

// P12.2: elements, whose bounds play no part.
func TestVarsOfElements(t *testing.T) {
	for scalar, size := range sizes() {
		for init := -2; init < 7; init++ {
			want := told{0, api.ErrRange}
			if 0 <= init && init <= size {
				want = told{}
			}
			vars(t, want, 1, element("x", scalar, 0, init))
			vars(t, want, 1, element("x", scalar, 1, init))
			vars(t, want, 1, element("x", scalar, 2, init))
		}
		vars(t, told{0, api.ErrRange}, 1, element("x", scalar, 0, math.MaxInt))
		vars(t, told{0, api.ErrRange}, 1, element("x", scalar, 0, math.MinInt))
		for _, none := range raw() {
			vars(t, told{0, api.ErrNone}, 1, element("x", scalar, none, 0))
			vars(t, told{0, api.ErrNone}, 1, element("x", none, scalar, 0))
			vars(t, told{0, api.ErrNone}, 1, element("x", none, none, 99))
		}
	}
	for _, none := range raw() {
		vars(t, told{0, api.ErrNone}, 1, element("x", none, 0, 0))
		vars(t, told{0, api.ErrNone}, 1, api.Var{Name: "x", Over: none})
		vars(t, told{0, api.ErrNone}, 1, api.Var{Name: "x", Over: none, Lo: 1})
	}
	if at, why := decl.Vars([]api.Var{number("a", 0, 0, 0), {Name: "x", Scalar: 1}}, nil, 2); at != 1 || why != api.ErrNone {
		t.Error(at, why)
	}
	// There may be more scalars than a model has.
	many := slices.Repeat([]api.Scalar{{Size: 3}}, 50)
	if at, why := decl.Vars([]api.Var{{Name: "x", Scalar: 50, Over: 49, Init: 3}, {Name: "y", Scalar: 51}}, many, 2); at != 1 || why != api.ErrNone {
		t.Error(at, why)
	}
}

// P12.2: at most so many, and names.
func TestVarsOfSome(t *testing.T) {
	var l []api.Var
	for _, name := range []string{"a", "b", "c", "d", "e"} {
		l = append(l, number(name, 0, 1, 0))
	}
	for most := range len(l) {
		vars(t, told{most, api.ErrMany}, most, l...)
		vars(t, told{}, most, l[:most]...)
	}
	for _, most := range []int{5, 6, api.MaxVars, math.MaxInt} {
		vars(t, told{}, most, l...)
	}
	for _, most := range []int{0, -1, -7, math.MinInt} {
		vars(t, told{0, api.ErrMany}, most, l...)
		vars(t, told{0, api.ErrMany}, most, number("", 1, 0, 0))
		vars(t, told{}, most)
	}
	vars(t, told{1, api.ErrTwice}, 12, number("x", 0, 3, 0), number("x", 0, 3, 0))
	vars(t, told{4, api.ErrTwice}, 12, append(slices.Clone(l[:4]), number("b", 0, 0, 0))...)
	vars(t, told{}, 12, number("x", 0, 3, 0), number("X", 0, 3, 0))
	for _, name := range badNames() {
		vars(t, told{0, api.ErrName}, 12, number(name, 0, 3, 0))
		vars(t, told{1, api.ErrName}, 12, number("x", 0, 3, 0), number(name, 0, 3, 0))
	}
	for _, name := range goodNames() {
		vars(t, told{}, 12, number(name, 0, 3, 0))
	}
	// The name of a scalar is free.
	vars(t, told{}, 12, number("S", 0, 3, 0))
}

// P12.2: of several errors the first one, of several that are wrong the first.
func TestOrderOfVars(t *testing.T) {
	good, bad := number("a", 0, 1, 0), api.Var{Name: "a", Scalar: 9, Over: 9, Lo: 1}
	nameless := bad
	nameless.Name = "at"
	vars(t, told{1, api.ErrMany}, 1, good, nameless)
	vars(t, told{1, api.ErrMany}, 1, good, bad)
	vars(t, told{1, api.ErrName}, 2, good, nameless)
	vars(t, told{1, api.ErrTwice}, 2, good, bad)
	vars(t, told{0, api.ErrNone}, 2, bad, good)
	vars(t, told{0, api.ErrNone}, 2, api.Var{Name: "b", Over: 9, Lo: 1}, good)
	vars(t, told{0, api.ErrNone}, 2, api.Var{Name: "b", Scalar: 1, Over: 9, Init: 3}, good)
	vars(t, told{0, api.ErrRange}, 2, number("a", 1, 0, 0), good)
	vars(t, told{0, api.ErrRange}, 1, number("a", 1, 0, 0), good)
	vars(t, told{0, api.ErrRange}, 12, slices.Repeat([]api.Var{number("a", 1, 0, 0)}, 70000)...)
}

// P12.3
func TestChans(t *testing.T) {
	chans(t, told{})
	var l []api.Chan
	for _, name := range []string{"a", "b", "c", "d", "e", "f"} {
		l = append(l, channel(name, 1, 0, 0))
	}
	chans(t, told{}, l[:api.MaxChans]...)
	chans(t, told{api.MaxChans, api.ErrMany}, l...)
	chans(t, told{1, api.ErrTwice}, channel("c", 1, 0, 1), channel("c", 2, 0, 1))
	chans(t, told{}, api.Chan{Name: "c", Cap: 1, Lossy: true}, channel("C", 1, 0, 0))
	for _, name := range badNames() {
		chans(t, told{0, api.ErrName}, channel(name, 1, 0, 0))
		chans(t, told{3, api.ErrName}, l[0], l[1], l[2], channel(name, 1, 0, 0))
	}
	for _, name := range goodNames() {
		chans(t, told{}, channel(name, 1, 0, 0))
	}
	for _, room := range []int{math.MinInt, -1, 0, 1, 2, api.MaxCap, api.MaxCap + 1, math.MaxInt} {
		want := told{0, api.ErrRange}
		if 1 <= room && room <= api.MaxCap {
			want = told{}
		}
		chans(t, want, channel("c", room, 0, 3))
		chans(t, want, api.Chan{Name: "c", Cap: room, Scalar: 1})
		chans(t, want, api.Chan{Name: "c", Cap: room, Scalar: 2, Lo: 5, Hi: math.MinInt, Lossy: true})
	}
	for _, none := range raw() {
		chans(t, told{0, api.ErrNone}, api.Chan{Name: "c", Cap: 1, Scalar: none})
	}
	if at, why := decl.Chans([]api.Chan{channel("c", 1, 0, 0), {Name: "d", Cap: 1, Scalar: 1}}, nil); at != 1 || why != api.ErrNone {
		t.Error(at, why)
	}
}

// P12.3: numbers, at the edges of what they may be.
func TestChansOfNumbers(t *testing.T) {
	const most, least = api.MaxNum, -api.MaxNum
	for _, x := range []struct {
		lo, hi int
		is     bool
	}{
		{0, 0, true}, {0, 1, true}, {1, 0, false}, {-3, -2, true}, {-2, -3, false}, {0, 255, true}, {0, 256, false}, {-100, 155, true}, {-100, 156, false},
		{most, most, true}, {most, most + 1, false}, {most + 1, most + 1, false}, {most - 255, most, true}, {most - 256, most, false},
		{least, least, true}, {least - 1, least, false}, {least - 1, least - 1, false}, {least, least + 255, true}, {least, least + 256, false}, {least, most, false},
		{math.MinInt, math.MaxInt, false}, {math.MaxInt, math.MinInt, false}, {0, math.MaxInt, false}, {math.MinInt, 0, false}, {math.MaxInt, math.MaxInt, false}, {math.MinInt, math.MinInt, false},
	} {
		want := told{1, api.ErrRange}
		if x.is {
			want = told{}
		}
		chans(t, want, channel("a", 1, 0, 0), channel("c", api.MaxCap, x.lo, x.hi))
	}
}

// P12.3: of several errors the first one, of several that are wrong the first.
func TestOrderOfChans(t *testing.T) {
	good := []api.Chan{channel("a", 1, 0, 0), channel("b", 1, 0, 0), channel("c", 1, 0, 0), channel("d", 1, 0, 0)}
	chans(t, told{4, api.ErrMany}, append(slices.Clone(good), api.Chan{Scalar: 9})...)
	chans(t, told{4, api.ErrMany}, append(slices.Clone(good), good[0])...)
	chans(t, told{1, api.ErrName}, good[0], api.Chan{Name: "len", Scalar: 9})
	chans(t, told{1, api.ErrTwice}, good[0], api.Chan{Name: "a", Scalar: 9})
	chans(t, told{1, api.ErrNone}, good[0], api.Chan{Name: "b", Scalar: 9, Lo: 1})
	chans(t, told{0, api.ErrRange}, api.Chan{Name: "a"}, api.Chan{Name: "a"})
	chans(t, told{0, api.ErrRange}, slices.Repeat([]api.Chan{{Name: "a"}}, 70000)...)
}

// P12.4
func TestCells(t *testing.T) {
	cells := func(want int, v api.Var) {
		t.Helper()
		if got := decl.Cells(v, theScalars()); got != want {
			t.Errorf("Cells(%v) = %d, not %d", v, got, want)
		}
	}
	cells(1, api.Var{})
	cells(1, api.Var{Scalar: 2, Lo: 5, Hi: 2})
	cells(1, api.Var{Scalar: 99})
	for over, size := range sizes() {
		cells(size, api.Var{Over: over})
		cells(size, api.Var{Over: over, Scalar: 3 - over})
		cells(size, api.Var{Over: over, Scalar: -1, Lo: math.MaxInt})
	}
	for _, none := range raw() {
		cells(0, api.Var{Over: none})
		cells(0, api.Var{Over: none, Scalar: 1})
		cells(1, api.Var{Scalar: none})
	}
	if plain, over := decl.Cells(api.Var{}, nil), decl.Cells(api.Var{Over: 1}, nil); plain != 1 || over != 0 {
		t.Error(plain, over)
	}
	if n := decl.Cells(api.Var{Over: 1}, theScalars()[:0]); n != 0 {
		t.Error("behind the list's length:", n)
	}
}

// P12.4
func TestBounds(t *testing.T) {
	bounds := func(wantLo, wantHi int, v api.Var) {
		t.Helper()
		if lo, hi := decl.Bounds(v, theScalars()); lo != wantLo || hi != wantHi {
			t.Errorf("Bounds(%v) = %d, %d, not %d, %d", v, lo, hi, wantLo, wantHi)
		}
	}
	bounds(0, 0, api.Var{})
	bounds(-3, 8, api.Var{Lo: -3, Hi: 8, Over: 1})
	bounds(-3, 8, api.Var{Lo: -3, Hi: 8, Over: 99})
	bounds(math.MaxInt, math.MinInt, api.Var{Lo: math.MaxInt, Hi: math.MinInt})
	for scalar, size := range sizes() {
		bounds(0, size, api.Var{Scalar: scalar})
		bounds(0, size, api.Var{Scalar: scalar, Lo: 5, Hi: -5, Init: 99, Over: -1})
	}
	for _, none := range raw() {
		bounds(0, 0, api.Var{Scalar: none, Lo: 3, Hi: 4})
		bounds(3, 4, api.Var{Over: none, Lo: 3, Hi: 4})
	}
	if lo, hi := decl.Bounds(api.Var{Scalar: 1, Lo: 3, Hi: 4}, nil); lo != 0 || hi != 0 {
		t.Error(lo, hi)
	}
}

// P12.5
func TestNames(t *testing.T) {
	m := api.Model{
		Scalars: []api.Scalar{{Name: "S"}, {Name: "T"}, {Name: "S"}},
		Vars:    []api.Var{{Name: "v"}, {Name: ""}, {Name: "w w"}},
		Chans:   []api.Chan{{Name: "c"}, {Name: "\xff"}},
		Procs: []api.Proc{
			{Name: "P", Vars: []api.Var{{Name: "l"}, {Name: "m"}}, Cmds: []api.Cmd{{Name: "go"}, {Name: "back"}}},
			{Name: "Q"},
			{Name: "P", Cmds: []api.Cmd{{Name: "self"}}},
			{Vars: []api.Var{{Name: "P"}}},
		},
		Props: []api.Prop{{Name: "p"}, {Name: strings.Repeat("q", 99)}},
	}
	want := []string{"S", "T", "S", "v", "", "w w", "c", "\xff", "P", "l", "m", "go", "back", "Q", "P", "self", "", "P", "p", strings.Repeat("q", 99)}
	got := decl.Names(m)
	if !slices.Equal(got, want) {
		t.Errorf("%q", got)
	}
	got[0], got[3] = "x", "x"
	if again := decl.Names(m); !slices.Equal(again, want) {
		t.Errorf("%q", again)
	}
	for _, x := range []struct {
		m    api.Model
		want []string
	}{
		{api.Model{}, nil},
		{api.Model{Scalars: m.Scalars[:1]}, []string{"S"}},
		{api.Model{Vars: m.Vars[:2]}, []string{"v", ""}},
		{api.Model{Chans: m.Chans}, []string{"c", "\xff"}},
		{api.Model{Procs: m.Procs[1:3]}, []string{"Q", "P", "self"}},
		{api.Model{Props: m.Props[:1]}, []string{"p"}},
		{api.Model{Chans: m.Chans[:0], Props: m.Props[:1]}, []string{"p"}},
	} {
		if got := decl.Names(x.m); !slices.Equal(got, x.want) {
			t.Errorf("%q, not %q", got, x.want)
		}
	}
	many := api.Model{Procs: slices.Repeat(m.Procs, 30000)}
	if got := decl.Names(many); len(got) != 300000 || got[299999] != "P" || got[10] != "P" {
		t.Error(len(got))
	}
}

// P12.6: what is right stays right, if the last one is taken away; with any of them a second time it is ErrTwice.
func TestParts(t *testing.T) {
	s := []api.Scalar{scalar("S", 3), scalar("T", 4)}
	v := []api.Var{number("a", -2, 253, 0), element("b", 1, 0, 2), element("c", 4, 2, 0), number("S", 5, 5, 5)}
	v[2].Scalar = 2
	c := []api.Chan{channel("a", 4, 0, 255), {Name: "b", Scalar: 2, Cap: 1, Lossy: true}, channel("c", 1, -5, 5)}
	for n := range len(s) + 1 {
		scalars(t, told{}, s[:n]...)
		if n < api.MaxScalars {
			for _, twice := range s[:n] {
				scalars(t, told{n, api.ErrTwice}, append(slices.Clone(s[:n]), twice)...)
			}
		}
	}
	for n := range len(v) + 1 {
		vars(t, told{}, n, v[:n]...)
		for _, twice := range v[:n] {
			vars(t, told{n, api.ErrTwice}, n+1, append(slices.Clone(v[:n]), twice)...)
			vars(t, told{n, api.ErrMany}, n, append(slices.Clone(v[:n]), twice)...)
		}
	}
	for n := range len(c) + 1 {
		chans(t, told{}, c[:n]...)
		for _, twice := range c[:n] {
			chans(t, told{n, api.ErrTwice}, append(slices.Clone(c[:n]), twice)...)
		}
	}
}

// The rules that hold everywhere: nothing that is handed in is changed, and what lies behind a list's length plays no part.
func TestListsAreLeftAlone(t *testing.T) {
	s, v, c := theScalars(), []api.Var{number("x", 0, 3, 0), number("x", 1, 0, 0)}, []api.Chan{channel("c", 1, 0, 0), channel("c", 0, 0, 0)}
	sBefore, vBefore, cBefore := slices.Clone(s), slices.Clone(v), slices.Clone(c)
	scalars(t, told{}, s[:2]...)
	vars(t, told{}, 12, v[:1]...)
	chans(t, told{}, c[:1]...)
	vars(t, told{1, api.ErrTwice}, 12, v...)
	chans(t, told{1, api.ErrTwice}, c...)
	decl.Names(api.Model{Scalars: s, Vars: v[:1], Chans: c[:1], Procs: []api.Proc{{Vars: v}}})
	if !slices.Equal(s, sBefore) || !slices.Equal(v, vBefore) || !slices.Equal(c, cBefore) {
		t.Error(s, v, c)
	}
	if at, why := decl.Vars([]api.Var{{Name: "x", Scalar: 2}}, s[:1], 1); at != 0 || why != api.ErrNone {
		t.Error(at, why)
	}
}
