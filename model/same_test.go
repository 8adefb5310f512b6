package model_test

import (
	"math"
	"math/rand"
	"reflect"
	"slices"
	"testing"

	"lariat/api"
	"lariat/decl"
	"lariat/expr"
	"lariat/lex"
	"lariat/model"
	"lariat/proc"
)

// same: a and b say the same; a list of nothing may be nil or not.
func same(a, b any) bool {
	x, y := reflect.ValueOf(a), reflect.ValueOf(b)
	switch x.Kind() {
	case reflect.Slice:
		for i := range min(x.Len(), y.Len()) {
			if !same(x.Index(i).Interface(), y.Index(i).Interface()) {
				return false
			}
		}
		return x.Len() == y.Len()
	case reflect.Struct:
		for i := range x.NumField() {
			if !same(x.Field(i).Interface(), y.Field(i).Interface()) {
				return false
			}
		}
		return true
	}
	return reflect.DeepEqual(a, b)
}

// leaves: all numbers, texts, truths and lists that x leads to.
func leaves(x reflect.Value) []reflect.Value {
	var l []reflect.Value
	switch x.Kind() {
	case reflect.Struct:
		for i := range x.NumField() {
			l = append(l, leaves(x.Field(i))...)
		}
		return l
	case reflect.Slice:
		for i := range x.Len() {
			l = append(l, leaves(x.Index(i))...)
		}
	}
	return append(l, x)
}

// leavesOf: those of a model.
func leavesOf(m *api.Model) []reflect.Value {
	return leaves(reflect.ValueOf(m).Elem())
}

// spoil changes each number and text that x leads to, and each list's room behind its end.
func spoil(x reflect.Value) {
	switch x.Kind() {
	case reflect.Struct:
		for i := range x.NumField() {
			spoil(x.Field(i))
		}
	case reflect.Slice:
		whole := x.Slice(0, x.Cap())
		for i := range whole.Len() {
			spoil(whole.Index(i))
		}
	case reflect.Int:
		x.SetInt(x.Int() + 1000)
	case reflect.String:
		x.SetString(x.String() + "spoilt")
	case reflect.Bool:
		x.SetBool(!x.Bool())
	}
}

// rawModel: theModel, with numbers and names that may not be, and lists that are empty.
func rawModel() api.Model {
	m := theModel()
	m.Scalars[0] = api.Scalar{Name: "?", Size: math.MinInt}
	m.Vars[2] = api.Var{Scalar: -1, Over: 99, Lo: 1, Hi: math.MinInt, Init: 7}
	m.Chans = append(m.Chans, api.Chan{Name: "c", Scalar: 7, Cap: -3, Lo: 5, Hi: 4})
	m.Procs[1] = api.Proc{Over: -1, Locs: -1, Vars: []api.Var{}, Cmds: []api.Cmd{{Guard: []api.Node{}, Acts: []api.Act{}}, {Acts: []api.Act{{Kind: 77, Index: one(9, 9), Value: []api.Node{}}}}}}
	m.Props = append(m.Props, api.Prop{Name: "p", Expr: []api.Node{}}, api.Prop{})
	return m
}

// P15.2: a copy is the same, however raw, and new.
func TestCopy(t *testing.T) {
	for i, made := range []func() api.Model{theModel, rawModel, func() api.Model { return api.Model{} }, func() api.Model { return api.Model{Procs: []api.Proc{}, Props: []api.Prop{}} }} {
		m := made()
		c := model.Copy(m)
		if !same(m, c) || !reflect.DeepEqual(m, made()) || !model.Same(m, c) {
			t.Error(i, "copied as", c)
		}
		spoil(reflect.ValueOf(&c).Elem())
		if !reflect.DeepEqual(m, made()) {
			t.Error(i, "the model is spoilt by its copy")
		}
		c = model.Copy(m)
		spoil(reflect.ValueOf(&m).Elem())
		if !same(c, made()) {
			t.Error(i, "the copy is spoilt by its model")
		}
	}
}

// P15.2: lists that a model has in two places are two in a copy.
func TestCopyOfSharedLists(t *testing.T) {
	made := func() api.Model {
		m := theModel()
		m.Procs[1], m.Props[1] = m.Procs[0], m.Props[0]
		m.Procs[0].Cmds[1] = m.Procs[0].Cmds[0]
		m.Procs[0].Cmds[0].Acts[0].Value = m.Procs[0].Cmds[0].Acts[0].Index
		return m
	}
	fresh := made()
	c := model.Copy(fresh)
	for at, x := range leavesOf(&c) {
		m := model.Copy(made())
		l := leavesOf(&m)
		if x.Kind() != reflect.Slice {
			spoil(l[at])
			if model.Same(m, fresh) {
				t.Fatal("not spoilt", at)
			}
		}
		for other, y := range leavesOf(&fresh) {
			if other != at && y.Kind() != reflect.Slice && !reflect.DeepEqual(l[other].Interface(), y.Interface()) {
				t.Fatal("place", other, "is spoilt by place", at)
			}
		}
	}
}

// P15.2: what lies behind a list's length plays no part.
func TestBehindTheEnd(t *testing.T) {
	m := theModel()
	m.Procs[0].Cmds[0].Acts = m.Procs[0].Cmds[0].Acts[:1]
	m.Procs[0].Vars = m.Procs[0].Vars[:1]
	m.Procs, m.Props, m.Vars = m.Procs[:1], m.Props[:1], m.Vars[:1]
	c := model.Copy(m)
	if !model.Same(m, c) || len(c.Procs) != 1 || len(c.Procs[0].Cmds[0].Acts) != 1 || len(c.Procs[0].Vars) != 1 || len(c.Props) != 1 || len(c.Vars) != 1 {
		t.Error(c)
	}
	spoil(reflect.ValueOf(&c).Elem())
	if m.Procs[:3][2].Name != "R" || m.Props[:2][1].Name != "q" || m.Vars[:3][2].Name != "o" || m.Procs[0].Vars[:2][1].Name != "b" {
		t.Error("spoilt behind the end")
	}
	if model.Same(m, theModel()) {
		t.Error("same as a longer one")
	}
}

// P15.2: models are not the same, if one thing differs anywhere.
func TestSame(t *testing.T) {
	for i, made := range []func() api.Model{theModel, rawModel} {
		m := made()
		if !model.Same(m, made()) {
			t.Error(i, "not the same as itself")
		}
		unlike := func(other api.Model, at int) {
			t.Helper()
			if model.Same(m, other) || model.Same(other, m) {
				t.Error(i, "the same with another thing at", at)
			}
		}
		for at, x := range leavesOf(&m) {
			other := made()
			y := leavesOf(&other)[at]
			if x.Kind() != reflect.Slice {
				spoil(y)
				unlike(other, at)
				continue
			}
			y.Set(reflect.Append(y, reflect.Zero(y.Type().Elem())))
			unlike(other, at)
			if x.Len() > 0 {
				y.SetLen(x.Len() - 1)
				unlike(other, at)
			}
			if x.Len() > 1 && !same(x.Index(0).Interface(), x.Index(1).Interface()) {
				other = made()
				y = leavesOf(&other)[at]
				reflect.Swapper(y.Interface())(0, 1)
				unlike(other, at)
			}
		}
		if !reflect.DeepEqual(m, made()) {
			t.Error(i, "changed")
		}
	}
}

// P15.2: whether lists without anything are nil plays no part.
func TestSameOfNothing(t *testing.T) {
	none := api.Model{}
	empty := api.Model{Scalars: []api.Scalar{}, Vars: []api.Var{}, Chans: []api.Chan{}, Procs: []api.Proc{}, Props: []api.Prop{}}
	if !model.Same(none, empty) || !model.Same(empty, none) || !model.Same(none, none) || !model.Same(empty, empty) {
		t.Error("of nothing")
	}
	full, other := rawModel(), rawModel()
	for _, x := range leavesOf(&other) {
		if x.Kind() == reflect.Slice && x.Len() == 0 {
			if x.IsNil() {
				x.Set(reflect.MakeSlice(x.Type(), 0, 1))
			} else {
				x.SetZero()
			}
		}
	}
	if reflect.DeepEqual(full, other) || !model.Same(full, other) || !model.Same(other, full) {
		t.Error("with empty lists")
	}
}

// pieces: what Pieces tells.
type pieces struct {
	insts, refs, cells int
}

func piecesOf(t *testing.T, want pieces, m api.Model) {
	t.Helper()
	if insts, refs, cells := model.Pieces(m); (pieces{insts, refs, cells}) != want {
		t.Errorf("Pieces = %d, %d, %d, not %v", insts, refs, cells, want)
	}
}

// P15.3
func TestPieces(t *testing.T) {
	piecesOf(t, pieces{}, api.Model{})
	piecesOf(t, pieces{6, 5, 22}, theModel())
	piecesOf(t, pieces{0, 0, 5}, api.Model{Chans: theModel().Chans})
	piecesOf(t, pieces{0, 0, 1}, api.Model{Vars: theModel().Vars})
	// Without scalars those over one are none.
	piecesOf(t, pieces{1, 1, 2}, api.Model{Procs: theModel().Procs})
	for _, x := range []struct{ room, cells int }{{math.MinInt, 1}, {-1, 1}, {0, 1}, {1, 2}, {3, 4}, {4, 5}, {5, 5}, {70000, 5}, {math.MaxInt, 5}} {
		piecesOf(t, pieces{0, 0, x.cells + 2}, api.Model{Chans: []api.Chan{{Cap: x.room, Scalar: 99}, {Cap: 1}}})
	}
	for _, x := range []struct{ size, count int }{{math.MinInt, 0}, {-1, 0}, {0, 0}, {1, 1}, {3, 3}, {4, 4}, {5, 0}, {math.MaxInt, 0}} {
		for over, is := range map[int]bool{2: true, 1: false, 3: false, -1: false, math.MinInt: false, math.MaxInt: false} {
			n := 0
			if is {
				n = x.count
			}
			m := api.Model{Scalars: []api.Scalar{{}, {Size: x.size}}, Vars: []api.Var{{Over: over, Scalar: 9}}, Procs: []api.Proc{{Over: over, Locs: -1, Vars: make([]api.Var, 7), Cmds: make([]api.Cmd, 30)}}}
			piecesOf(t, pieces{n, 30 * n, n + 8*n}, m)
		}
	}
	many := api.Proc{Vars: make([]api.Var, 70000), Cmds: make([]api.Cmd, 70001)}
	piecesOf(t, pieces{70000, 70000 * 70001, 70000 * 70001}, api.Model{Procs: slices.Repeat([]api.Proc{many}, 70000)})
}

// theFault: what Check is to tell, the first of all faults that a model has of those that are told.
func theFault(m api.Model) api.Fault {
	var l []api.Fault
	add := func(is bool, why api.Errno, part, item, sub int) {
		if is && why != api.OK {
			l = append(l, fault(why, part, item, sub))
		}
	}
	bare := m // of names the row alone
	bare.Procs, bare.Props = nil, nil
	row := decl.Names(bare)
	for _, p := range m.Procs {
		row = append(row, p.Name)
	}
	all := slices.Clone(row) // that a local may not have
	for _, p := range m.Props {
		row = append(row, p.Name)
	}
	twice := func(at int) bool { return slices.Index(row, row[at]) < at }
	at, why := decl.Scalars(m.Scalars)
	add(true, why, 1, at, 0)
	ahead := len(m.Scalars)
	at, why = decl.Vars(m.Vars, m.Scalars, api.MaxVars)
	for i := range m.Vars {
		add(i == at, why, 2, i, 0)
		add(twice(ahead+i), api.ErrTwice, 2, i, 0)
	}
	ahead += len(m.Vars)
	at, why = decl.Chans(m.Chans, m.Scalars)
	for i := range m.Chans {
		add(i == at, why, 3, i, 0)
		add(twice(ahead+i), api.ErrTwice, 3, i, 0)
	}
	ahead += len(m.Chans)
	for i, p := range m.Procs {
		add(i >= api.MaxProcs, api.ErrMany, 4, i, 0)
		part, at, why := proc.Check(p, proc.Scope(m, i))
		add(true, why, 4, i, 16*part+at)
		add(twice(ahead+i), api.ErrTwice, 4, i, 0)
		for n, v := range p.Vars {
			add(slices.Contains(all, v.Name), api.ErrTwice, 4, i, 16+n)
		}
	}
	ahead += len(m.Procs)
	_, _, cells := model.Pieces(m)
	add(len(proc.Insts(m)) > 12 || cells > 64, api.ErrMany, 4, len(m.Procs), 0)
	for i, p := range m.Props {
		add(i >= api.MaxProps, api.ErrMany, 5, i, 0)
		add(!lex.Name(p.Name), api.ErrName, 5, i, 0)
		add(twice(ahead+i), api.ErrTwice, 5, i, 0)
		kind, why := expr.Kind(p.Expr, proc.Scope(m, -1))
		add(true, why, 5, i, 0)
		add(kind != 1, api.ErrKind, 5, i, 0)
	}
	return append(l, api.Fault{})[0]
}

// changed is m with one thing changed by chance.
func changed(m *api.Model, chance *rand.Rand) {
	numbers := []int{-1, 0, 1, 2, 3, 4, 5, 9, 13, 16, 32, 99, api.MaxNum + 1, math.MaxInt, math.MinInt}
	names := append(decl.Names(*m), "", "self", "zz", "zy")
	l := leavesOf(m)
	x := l[chance.Intn(len(l))]
	switch x.Kind() {
	case reflect.Int:
		x.SetInt(int64(numbers[chance.Intn(len(numbers))]))
	case reflect.String:
		x.SetString(names[chance.Intn(len(names))])
	case reflect.Bool:
		x.SetBool(!x.Bool())
	case reflect.Slice:
		n := x.Len()
		switch chance.Intn(3) {
		case 0:
			x.Set(reflect.Append(x, reflect.Zero(x.Type().Elem())))
		case 1:
			if n > 0 {
				x.Set(reflect.AppendSlice(x, x.Slice(chance.Intn(n), n)))
			}
		case 2:
			x.Set(x.Slice(0, chance.Intn(n+1)))
		}
	}
}

// P15.1, P15.2, P15.3, P15.4, P15.5: models in which some things are changed by chance.
func TestGrown(t *testing.T) {
	chance := rand.New(rand.NewSource(15))
	whys := map[api.Fault]bool{}
	for range 30000 {
		m := theModel()
		for range 1 + chance.Intn(4) {
			changed(&m, chance)
		}
		want := theFault(m)
		whys[want] = true
		check(t, want, m)
		insts, refs, cells := model.Pieces(m)
		if insts != len(proc.Insts(m)) || refs != len(proc.Refs(m)) {
			t.Error(insts, refs, m)
		}
		if c := model.Copy(m); !same(m, c) || !model.Same(m, c) || model.Same(m, theModel()) != same(m, theModel()) {
			t.Error(c)
		}
		if want.Why != api.OK {
			continue
		}
		if insts > api.MaxInsts || cells > api.MaxCells {
			t.Error(insts, cells, m)
		}
		m.Props = nil
		check(t, api.Fault{}, m)
	}
	if len(whys) < 100 {
		t.Error("too few faults:", len(whys))
	}
}

// The rules that hold everywhere: nothing that is handed in is changed.
func TestUnchanged(t *testing.T) {
	for i, made := range []func() api.Model{theModel, rawModel} {
		m := made()
		model.Check(m)
		model.Pieces(m)
		model.Copy(m)
		model.Same(m, made())
		if !reflect.DeepEqual(m, made()) {
			t.Error(i, "changed")
		}
		m.Props, m.Procs = m.Props[:1], m.Procs[:2]
		model.Check(m)
		if m.Props[:2][1].Name != "q" || m.Procs[:3][2].Name != "R" {
			t.Error(i, "changed behind the end")
		}
	}
}
