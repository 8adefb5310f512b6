package layout_test

import (
	"math"
	"math/rand"
	"reflect"
	"slices"
	"strconv"
	"testing"

	"lariat/api"
	"lariat/layout"
	"lariat/model"
)

// theModel: a model that may be, with something in each list there is; 23 cells.
func theModel() api.Model {
	truth := []api.Node{{Op: api.XNum}, {Op: api.XNum}, {Op: api.XEq}}
	return api.Model{
		Scalars: []api.Scalar{{Name: "S", Size: 2}, {Name: "T", Size: 3}},
		Vars:    []api.Var{{Name: "x", Lo: -4, Hi: 3}, {Name: "y", Over: 2, Lo: 5, Hi: 9, Init: 7}, {Name: "o", Scalar: 1, Over: 1}, {Name: "z", Scalar: 2, Init: 3, Lo: 77, Hi: -77}},
		Chans:   []api.Chan{{Name: "c", Cap: 2, Lo: 2, Hi: 3, Lossy: true}, {Name: "d", Scalar: 2, Cap: 1, Lo: -9, Hi: 99}},
		Procs: []api.Proc{
			{Name: "P", Over: 1, Locs: 2, Vars: []api.Var{{Name: "a", Lo: -1, Hi: 5}, {Name: "b", Scalar: 2, Init: 1}}, Cmds: []api.Cmd{{Name: "go", To: 1, Guard: truth}}},
			{Name: "Q", Over: 2, Locs: 12},
			{Name: "R", Locs: 1, Vars: []api.Var{{Name: "a", Scalar: 1}}},
		},
		Props: []api.Prop{{Name: "p", Expr: truth}},
	}
}

// spoiler: what is done to a model, so that it may be no more.
type spoiler func(m *api.Model)

// spoilers: one for each part, and some that are raw.
func spoilers() []spoiler {
	return []spoiler{
		func(m *api.Model) { m.Scalars[1].Size = api.MaxSize + 1 },
		func(m *api.Model) { m.Scalars[0].Size = math.MinInt },
		func(m *api.Model) { m.Scalars = nil },
		func(m *api.Model) { m.Vars[0].Name = "" },
		func(m *api.Model) { m.Vars[1].Over = 3 },
		func(m *api.Model) { m.Vars[0].Lo, m.Vars[0].Hi = math.MinInt, math.MaxInt },
		func(m *api.Model) { m.Vars[3].Name = "T" },
		func(m *api.Model) { m.Chans[0].Cap = math.MaxInt },
		func(m *api.Model) { m.Chans[0].Cap = -1 },
		func(m *api.Model) { m.Chans[1].Scalar = -1 },
		func(m *api.Model) { m.Procs[0].Locs = api.MaxLocs + 1 },
		func(m *api.Model) { m.Procs[2].Vars[0].Over = 1 },
		func(m *api.Model) { m.Procs[0].Cmds[0].To = 2 },
		func(m *api.Model) { m.Procs[2].Vars[0].Name = "P" },
		func(m *api.Model) { m.Procs[1].Over = math.MaxInt },
		func(m *api.Model) { m.Procs = append(m.Procs, make([]api.Proc, 70000)...) },
		func(m *api.Model) { m.Chans = append(m.Chans, make([]api.Chan, 70000)...) },
		func(m *api.Model) { m.Props[0].Expr = nil },
		func(m *api.Model) { m.Props[0].Name = "x" },
	}
}

// refused: nothing is told of a model that may not be.
func refused(t *testing.T, m api.Model) {
	t.Helper()
	if model.Check(m) == (api.Fault{}) {
		t.Error("it may be:", m)
	}
	if l := layout.Of(m); !same(l, api.Layout{}) {
		t.Error("Of =", l)
	}
	if l := layout.Kinds(m); len(l) != 0 {
		t.Error("Kinds =", l)
	}
	for _, cell := range []int{0, 1, -1, 24, math.MaxInt, math.MinInt} {
		slot(t, m, cell, 0, 0, 0)
	}
}

func slot(t *testing.T, m api.Model, cell, what, which, place int) {
	t.Helper()
	if a, b, c := layout.Slots(m, cell); a != what || b != which || c != place {
		t.Errorf("Slots of %d = %d, %d, %d, not %d, %d, %d", cell, a, b, c, what, which, place)
	}
}

// same: a and b say the same; a list of nothing may be nil or not.
func same(a, b api.Layout) bool {
	return a.Cells == b.Cells && slices.Equal(a.Vars, b.Vars) && slices.Equal(a.Chans, b.Chans) && slices.Equal(a.Insts, b.Insts) && slices.Equal(a.Lo, b.Lo) && slices.Equal(a.Hi, b.Hi)
}

func laid(t *testing.T, m api.Model, want api.Layout, kinds []int) {
	t.Helper()
	if f := model.Check(m); f != (api.Fault{}) {
		t.Error("it may not be:", f)
	}
	if l := layout.Of(m); !same(l, want) {
		t.Errorf("Of = %v, not %v", l, want)
	}
	if l := layout.Kinds(m); !slices.Equal(l, kinds) {
		t.Errorf("Kinds = %v, not %v", l, kinds)
	}
}

// The example.
func TestExample(t *testing.T) {
	m := api.Model{
		Scalars: []api.Scalar{{Name: "S", Size: 2}},
		Vars:    []api.Var{{Name: "x", Over: 1, Hi: 1}},
		Chans:   []api.Chan{{Name: "c", Cap: 1, Hi: 2}},
		Procs:   []api.Proc{{Name: "P", Locs: 3, Vars: []api.Var{{Name: "l", Hi: 4}}}},
	}
	laid(t, m, api.Layout{Vars: []int{0}, Chans: []int{2}, Insts: []int{4}, Cells: 6, Lo: make([]int, 6), Hi: []int{1, 1, 1, 2, 2, 4}}, make([]int, 6))
	for cell, want := range [][3]int{{1, 0, 0}, {1, 0, 1}, {2, 0, 0}, {2, 0, 1}, {3, 0, 0}, {3, 0, 1}} {
		slot(t, m, cell, want[0], want[1], want[2])
	}
}

// P17.1, P17.2: one with something of all, told by hand.
func TestTheModel(t *testing.T) {
	laid(t, theModel(), api.Layout{
		Vars: []int{0, 1, 4, 6}, Chans: []int{7, 10}, Insts: []int{12, 15, 18, 19, 20, 21}, Cells: 23,
		Lo: []int{-4, 5, 5, 5, 0, 0, 0, 0, 0, 0, 0, 0, 0, -1, 0, 0, -1, 0, 0, 0, 0, 0, 0},
		Hi: []int{3, 9, 9, 9, 2, 2, 3, 2, 3, 3, 1, 3, 1, 5, 3, 1, 5, 3, 11, 11, 11, 0, 2},
	}, []int{0, 0, 0, 0, 2, 2, 3, 0, 0, 0, 0, 3, 0, 0, 3, 0, 0, 3, 0, 0, 0, 0, 2})
	want := [][3]int{
		{1, 0, 0}, {1, 1, 0}, {1, 1, 1}, {1, 1, 2}, {1, 2, 0}, {1, 2, 1}, {1, 3, 0},
		{2, 0, 0}, {2, 0, 1}, {2, 0, 2}, {2, 1, 0}, {2, 1, 1},
		{3, 0, 0}, {3, 0, 1}, {3, 0, 2}, {3, 1, 0}, {3, 1, 1}, {3, 1, 2}, {3, 2, 0}, {3, 3, 0}, {3, 4, 0}, {3, 5, 0}, {3, 5, 1},
	}
	for cell, w := range want {
		slot(t, theModel(), cell, w[0], w[1], w[2])
	}
	for _, cell := range []int{-1, 23, 24, -23, math.MaxInt, math.MinInt} {
		slot(t, theModel(), cell, 0, 0, 0)
	}
}

// P17.1, P17.2: nothing of a model that may not be; nothing to tell of one without cells.
func TestMayNotBe(t *testing.T) {
	for _, spoil := range spoilers() {
		m := theModel()
		spoil(&m)
		refused(t, m)
	}
	refused(t, api.Model{Props: []api.Prop{{}}})
	refused(t, api.Model{Procs: make([]api.Proc, 70000)})
	for _, m := range []api.Model{{}, {Scalars: theModel().Scalars}, {Props: theModel().Props, Vars: []api.Var{}}} {
		laid(t, m, api.Layout{}, nil)
		for cell := -2; cell < 3; cell++ {
			slot(t, m, cell, 0, 0, 0)
		}
	}
}

// P17.1, P17.3: 0 is among the bounds of a channel's cells, even where it is no value of it.
func TestChannels(t *testing.T) {
	for _, x := range [][4]int{{0, 0, 0, 0}, {1, 1, 0, 1}, {-1, -1, -1, 0}, {3, 7, 0, 7}, {-7, -3, -7, 0}, {-2, 5, -2, 5}, {0, 9, 0, 9}, {-9, 0, -9, 0}, {api.MaxNum, api.MaxNum, 0, api.MaxNum}, {-api.MaxNum, -api.MaxNum, -api.MaxNum, 0}, {-api.MaxNum, 255 - api.MaxNum, -api.MaxNum, 0}} {
		for room := 1; room <= api.MaxCap; room++ {
			m := api.Model{Chans: []api.Chan{{Name: "c", Cap: room, Lo: x[0], Hi: x[1]}}}
			want := api.Layout{Chans: []int{0}, Cells: 1 + room, Lo: []int{0}, Hi: []int{room}}
			for range room {
				want.Lo, want.Hi = append(want.Lo, x[2]), append(want.Hi, x[3])
			}
			laid(t, m, want, make([]int, 1+room))
			// A variable has its own bounds alone.
			v := api.Model{Vars: []api.Var{{Name: "v", Lo: x[0], Hi: x[1], Init: x[0]}}}
			laid(t, v, api.Layout{Vars: []int{0}, Cells: 1, Lo: []int{x[0]}, Hi: []int{x[1]}}, []int{0})
		}
	}
	for size := 1; size <= api.MaxSize; size++ {
		m := api.Model{Scalars: []api.Scalar{{Name: "S", Size: 1}, {Name: "T", Size: size}}, Chans: []api.Chan{{Name: "c", Scalar: 2, Cap: 2, Lo: 8, Hi: 9}}}
		laid(t, m, api.Layout{Chans: []int{0}, Cells: 3, Lo: []int{0, 0, 0}, Hi: []int{2, size, size}}, []int{0, 3, 3})
	}
}

// grown: a model by chance, of numbers that may be.
func grown(chance *rand.Rand) api.Model {
	var m api.Model
	for i := range chance.Intn(api.MaxScalars + 1) {
		m.Scalars = append(m.Scalars, api.Scalar{Name: "S" + strconv.Itoa(i), Size: 1 + chance.Intn(api.MaxSize)})
	}
	scalar := func() int { return chance.Intn(len(m.Scalars) + 1) }
	bounds := func() (int, int) {
		lo := chance.Intn(13) - 6
		return lo, lo + chance.Intn(5)
	}
	variable := func(name string) api.Var {
		v := api.Var{Name: name, Scalar: scalar()}
		v.Lo, v.Hi = bounds()
		if v.Init = v.Lo; v.Scalar != 0 {
			v.Init = chance.Intn(2)
		}
		return v
	}
	for i := range chance.Intn(5) {
		v := variable("v" + strconv.Itoa(i))
		v.Over = scalar()
		m.Vars = append(m.Vars, v)
	}
	for i := range chance.Intn(api.MaxChans + 1) {
		c := api.Chan{Name: "c" + strconv.Itoa(i), Scalar: scalar(), Cap: 1 + chance.Intn(api.MaxCap)}
		c.Lo, c.Hi = bounds()
		m.Chans = append(m.Chans, c)
	}
	for i := range chance.Intn(4) {
		p := api.Proc{Name: "P" + strconv.Itoa(i), Over: scalar(), Locs: 1 + chance.Intn(api.MaxLocs)}
		for n := range chance.Intn(api.MaxLocals + 1) {
			p.Vars = append(p.Vars, variable("l"+strconv.Itoa(n)))
		}
		m.Procs = append(m.Procs, p)
	}
	return m
}

// cell: all that is told of one.
type cell struct {
	what, which, place, lo, hi, kind int
}

// theCells: what is to be told of each cell, gone through thing by thing.
func theCells(m api.Model) []cell {
	var l []cell
	count := func(over int) int {
		if over == 0 {
			return 1
		}
		return m.Scalars[over-1].Size
	}
	add := func(what, which, place, scalar, lo, hi int) {
		c := cell{what, which, place, lo, hi, 0}
		if scalar != 0 {
			c.lo, c.hi, c.kind = 0, m.Scalars[scalar-1].Size, 1+scalar
		}
		l = append(l, c)
	}
	for i, v := range m.Vars {
		for place := range count(v.Over) {
			add(1, i, place, v.Scalar, v.Lo, v.Hi)
		}
	}
	for i, c := range m.Chans {
		add(2, i, 0, 0, 0, c.Cap)
		for place := range c.Cap {
			add(2, i, 1+place, c.Scalar, slices.Min([]int{0, c.Lo}), slices.Max([]int{0, c.Hi}))
		}
	}
	inst := 0
	for _, p := range m.Procs {
		for range count(p.Over) {
			add(3, inst, 0, 0, 0, p.Locs-1)
			for place, v := range p.Vars {
				add(3, inst, 1+place, v.Scalar, v.Lo, v.Hi)
			}
			inst++
		}
	}
	return l
}

// P17.1, P17.2, P17.3: models by chance, cell by cell.
func TestGrown(t *testing.T) {
	chance := rand.New(rand.NewSource(17))
	full := 0
	for range 8000 {
		m := grown(chance)
		cells := theCells(m)
		if len(cells) > api.MaxCells || model.Check(m) != (api.Fault{}) {
			refused(t, m)
			continue
		}
		if len(cells) > 48 {
			full++
		}
		var want api.Layout
		var kinds []int
		for at, c := range cells {
			want.Cells++
			want.Lo, want.Hi, kinds = append(want.Lo, c.lo), append(want.Hi, c.hi), append(kinds, c.kind)
			if firsts := []*[]int{&want.Vars, &want.Chans, &want.Insts}[c.what-1]; c.place == 0 {
				*firsts = append(*firsts, at)
			}
			slot(t, m, at, c.what, c.which, c.place)
		}
		laid(t, m, want, kinds)
		l := layout.Of(m)
		for at := range cells {
			what, which, place := layout.Slots(m, at)
			if [][]int{l.Vars, l.Chans, l.Insts}[what-1][which]+place != at {
				t.Error("cell", at, "is at", what, which, place)
			}
			if what == 2 && (l.Lo[at] > 0 || l.Hi[at] < 0) {
				t.Error("no 0 in cell", at)
			}
		}
		for _, at := range []int{-1, len(cells), len(cells) + 1, math.MaxInt, math.MinInt} {
			slot(t, m, at, 0, 0, 0)
		}
	}
	if full < 50 {
		t.Error("too few with many cells:", full)
	}
}

// P17.1: as many cells as there may be, and one more.
func TestMaxCells(t *testing.T) {
	m := api.Model{Scalars: []api.Scalar{{Name: "S", Size: api.MaxSize}}}
	for i := range api.MaxVars {
		m.Vars = append(m.Vars, api.Var{Name: "v" + strconv.Itoa(i), Over: 1, Lo: i, Hi: i + 255, Init: i})
	}
	m.Procs = []api.Proc{{Name: "P", Over: 1, Locs: 1, Vars: []api.Var{{Name: "a"}, {Name: "b"}, {Name: "c", Lo: -255}}}}
	l := layout.Of(m)
	if l.Cells != api.MaxCells || len(l.Lo) != 64 || len(l.Hi) != 64 || l.Lo[63] != -255 || l.Hi[47] != 266 || !slices.Equal(l.Insts, []int{48, 52, 56, 60}) {
		t.Error(l)
	}
	slot(t, m, 63, 3, 3, 3)
	slot(t, m, 47, 1, 11, 3)
	slot(t, m, 64, 0, 0, 0)
	m.Chans = []api.Chan{{Name: "d", Cap: 1}}
	refused(t, m)
}

// The rules that hold everywhere: what is handed in stays as it is, what is answered is new.
func TestNew(t *testing.T) {
	m := theModel()
	want := layout.Of(theModel())
	for i := range 6 {
		l := layout.Of(m)
		lists := [][]int{l.Vars, l.Chans, l.Insts, l.Lo, l.Hi, layout.Kinds(m)}
		fresh := [][]int{want.Vars, want.Chans, want.Insts, want.Lo, want.Hi, layout.Kinds(m)}
		whole := lists[i][:cap(lists[i])]
		for at := range whole {
			whole[at] += 1000
		}
		for j := range lists {
			if i != j && !slices.Equal(lists[j], fresh[j]) {
				t.Error("list", j, "is spoilt by list", i)
			}
		}
		if !reflect.DeepEqual(m, theModel()) {
			t.Error("changed")
		}
	}
	if !same(layout.Of(m), want) {
		t.Error("another time", layout.Of(m))
	}
	// What lies behind a list's length plays no part.
	m.Vars, m.Procs, m.Procs[0].Vars = m.Vars[:1], m.Procs[:1], m.Procs[0].Vars[:1]
	laid(t, m, api.Layout{Vars: []int{0}, Chans: []int{1, 4}, Insts: []int{6, 8}, Cells: 10, Lo: []int{-4, 0, 0, 0, 0, 0, 0, -1, 0, -1}, Hi: []int{3, 2, 3, 3, 1, 3, 1, 5, 1, 5}}, []int{0, 0, 0, 0, 0, 3, 0, 0, 0, 0})
	if m.Vars[:4][3].Name != "z" || m.Procs[:3][2].Name != "R" || m.Procs[0].Vars[:2][1].Name != "b" {
		t.Error("changed behind the end")
	}
}
