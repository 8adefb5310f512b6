package proc_test

import (
	"math"
	"math/rand"
	"reflect"
	"slices"
	"testing"

	"lariat/api"
	"lariat/proc"
)

// theModel: raw, with something in each list there is.
func theModel() api.Model {
	s := theScope()
	odd := api.Proc{Name: "?", Over: -7, Locs: 99, Vars: []api.Var{{Name: "x"}, {Over: 9}}, Cmds: []api.Cmd{{Acts: make([]api.Act, 3)}}}
	return api.Model{Scalars: s.Scalars, Vars: s.Vars, Chans: s.Chans, Procs: []api.Proc{theProc(), {Name: "Q"}, odd}, Props: []api.Prop{{Name: "p", Expr: truth()}}}
}

// same: a and b say the same; a list of nothing may be nil or not.
func same(a, b any) bool {
	x, y := reflect.ValueOf(a), reflect.ValueOf(b)
	if x.Kind() == reflect.Slice {
		if x.Len() != y.Len() {
			return false
		}
		for i := range x.Len() {
			if !same(x.Index(i).Interface(), y.Index(i).Interface()) {
				return false
			}
		}
		return true
	}
	if x.Kind() == reflect.Struct {
		for i := range x.NumField() {
			if !same(x.Field(i).Interface(), y.Field(i).Interface()) {
				return false
			}
		}
		return true
	}
	return reflect.DeepEqual(a, b)
}

// spoil changes each number and text that x leads to, and each list's room behind its end.
func spoil(x reflect.Value) {
	switch x.Kind() {
	case reflect.Struct:
		for i := range x.NumField() {
			spoil(x.Field(i))
		}
	case reflect.Slice:
		whole := x.Slice(0, x.Cap())
		for i := range whole.Len() {
			spoil(whole.Index(i))
		}
	case reflect.Int:
		x.SetInt(x.Int() + 1000)
	case reflect.String:
		x.SetString(x.String() + "spoilt")
	case reflect.Bool:
		x.SetBool(!x.Bool())
	}
}

// P14.2
func TestScope(t *testing.T) {
	m := theModel()
	for at := -2; at < 6; at++ {
		want := api.Scope{Scalars: m.Scalars, Vars: m.Vars, Chans: m.Chans, Procs: m.Procs}
		if 0 <= at && at < len(m.Procs) {
			want.Locals, want.Self = m.Procs[at].Vars, m.Procs[at].Over
		}
		if s := proc.Scope(m, at); !same(s, want) {
			t.Error(at, s, "not", want)
		}
	}
	for _, at := range []int{math.MinInt, math.MaxInt} {
		if s := proc.Scope(m, at); len(s.Locals) != 0 || s.Self != 0 || len(s.Procs) != 3 {
			t.Error(at, s)
		}
	}
	if s := proc.Scope(api.Model{}, 0); !same(s, api.Scope{}) {
		t.Error(s)
	}
	if s := proc.Scope(m, 2); s.Self != -7 || len(s.Locals) != 2 {
		t.Error(s)
	}
}

// P14.2: a scope shares nothing with the model, and no two of its lists share anything.
func TestScopeIsNew(t *testing.T) {
	m := theModel()
	for at := range m.Procs {
		s := proc.Scope(m, at)
		spoil(reflect.ValueOf(&s).Elem())
		if !reflect.DeepEqual(m, theModel()) {
			t.Fatal("the model is spoilt by a scope", at)
		}
		s, fresh := proc.Scope(m, at), proc.Scope(m, at)
		for i := range reflect.ValueOf(s).NumField() {
			s := proc.Scope(m, at)
			spoil(reflect.ValueOf(&s).Elem().Field(i))
			for j := range reflect.ValueOf(s).NumField() {
				if i != j && !same(reflect.ValueOf(s).Field(j).Interface(), reflect.ValueOf(fresh).Field(j).Interface()) {
					t.Error("field", j, "is spoilt by field", i)
				}
			}
		}
		twin := theModel()
		s = proc.Scope(twin, at)
		spoil(reflect.ValueOf(&twin).Elem())
		if !same(s, fresh) {
			t.Error("a scope is spoilt by the model", at)
		}
	}
}

// P14.2: lists that a model has in two places are two in a scope.
func TestScopeOfSharedLists(t *testing.T) {
	m := theModel()
	m.Procs = []api.Proc{m.Procs[0], m.Procs[0]}
	m.Procs[0].Cmds = []api.Cmd{m.Procs[0].Cmds[0], m.Procs[0].Cmds[0]}
	s, fresh := proc.Scope(m, 1), proc.Scope(m, 1)
	spoil(reflect.ValueOf(&s.Procs[0]).Elem())
	if !same(s.Procs[1], fresh.Procs[1]) || !same(s.Locals, fresh.Locals) {
		t.Error("a process is spoilt by another one")
	}
	s = proc.Scope(m, 0)
	spoil(reflect.ValueOf(&s.Procs[0].Cmds[0]).Elem())
	if !same(s.Procs[0].Cmds[1], fresh.Procs[0].Cmds[1]) {
		t.Error("a command is spoilt by another one")
	}
}

// theInsts: the instances, worked out by how many of each process there are.
func theInsts(m api.Model) []api.Inst {
	var l []api.Inst
	for at, p := range m.Procs {
		switch {
		case p.Over == 0:
			l = append(l, api.Inst{Proc: at})
		case 1 <= p.Over && p.Over <= len(m.Scalars) && slices.Contains([]int{1, 2, 3, 4}, m.Scalars[p.Over-1].Size):
			for elem := 1; elem <= m.Scalars[p.Over-1].Size; elem++ {
				l = append(l, api.Inst{Proc: at, Elem: elem})
			}
		}
	}
	return l
}

// P14.3, P14.4: the numbers of an instance's commands, and which of them are fair.
func numbers(t *testing.T, m api.Model) {
	t.Helper()
	insts := theInsts(m)
	if got := proc.Insts(m); !slices.Equal(got, insts) {
		t.Errorf("Insts = %v, not %v", got, insts)
	}
	var refs []api.Ref
	var fair []int
	for i, inst := range insts {
		for at, c := range m.Procs[inst.Proc].Cmds {
			if c.Fair {
				fair = append(fair, len(refs))
			}
			refs = append(refs, api.Ref{Inst: i, Cmd: at})
		}
	}
	if got := proc.Refs(m); !slices.Equal(got, refs) {
		t.Errorf("Refs = %v, not %v", got, refs)
	}
	if got := proc.Fair(m); !slices.Equal(got, fair) {
		t.Errorf("Fair = %v, not %v", got, fair)
	}
}

// over: a process with so many commands, each third one fair.
func over(scalar, count int) api.Proc {
	p := api.Proc{Over: scalar}
	for i := range count {
		p.Cmds = append(p.Cmds, api.Cmd{Fair: i%3 == 1})
	}
	return p
}

// P14.3: the example, and others told one by one.
func TestNumbers(t *testing.T) {
	m := api.Model{Scalars: []api.Scalar{{Name: "S", Size: 2}}, Procs: []api.Proc{over(1, 1), over(0, 2)}}
	if l := proc.Insts(m); !slices.Equal(l, []api.Inst{{Elem: 1}, {Elem: 2}, {Proc: 1}}) {
		t.Error(l)
	}
	if l := proc.Refs(m); !slices.Equal(l, []api.Ref{{}, {Inst: 1}, {Inst: 2}, {Inst: 2, Cmd: 1}}) {
		t.Error(l)
	}
	if l := proc.Fair(m); !slices.Equal(l, []int{3}) {
		t.Error(l)
	}
	m.Procs[0].Cmds[0].Fair = true
	if l := proc.Fair(m); !slices.Equal(l, []int{0, 1, 3}) {
		t.Error(l)
	}
	numbers(t, api.Model{})
	numbers(t, theModel())
}

// P14.3: scalars of all sizes, and processes over none that there is.
func TestRawNumbers(t *testing.T) {
	m := api.Model{Procs: []api.Proc{over(0, 2)}}
	for _, size := range []int{1, 2, 3, api.MaxSize, 0, api.MaxSize + 1, -1, math.MaxInt, math.MinInt} {
		m.Scalars = append(m.Scalars, api.Scalar{Size: size})
		for _, scalar := range []int{len(m.Scalars), len(m.Scalars) + 1, -1, math.MaxInt, math.MinInt, 1, 0} {
			m.Procs = append(m.Procs, over(scalar, len(m.Procs)%4))
			numbers(t, m)
		}
	}
	for _, size := range []int{0, -1, api.MaxSize + 1, math.MaxInt, math.MinInt} {
		none := api.Model{Scalars: []api.Scalar{{Size: size}}, Procs: []api.Proc{over(1, 2)}}
		if len(proc.Insts(none)) != 0 || len(proc.Refs(none)) != 0 || len(proc.Fair(none)) != 0 {
			t.Error(size, proc.Insts(none))
		}
	}
	// There may be more processes, and more commands, than a model has.
	numbers(t, api.Model{Procs: []api.Proc{over(0, 70000)}})
	numbers(t, api.Model{Scalars: m.Scalars, Procs: slices.Repeat([]api.Proc{over(4, 1), over(5, 9), over(0, 0)}, 20000)})
}

// P14.3, P14.4: models by chance.
func TestGrownNumbers(t *testing.T) {
	chance := rand.New(rand.NewSource(14))
	for range 3000 {
		var m api.Model
		for range chance.Intn(4) {
			m.Scalars = append(m.Scalars, api.Scalar{Size: chance.Intn(7) - 1})
		}
		for range chance.Intn(6) {
			m.Procs = append(m.Procs, over(chance.Intn(6)-1, chance.Intn(5)))
		}
		numbers(t, m)
	}
}

// P14.3: what is answered is new each time.
func TestNumbersAreNew(t *testing.T) {
	m := theModel()
	proc.Insts(m)[0].Elem = 99
	proc.Refs(m)[0].Cmd = 99
	proc.Fair(m)[0] = 99
	numbers(t, m)
	if !reflect.DeepEqual(m, theModel()) {
		t.Error("changed", m)
	}
}
