package model_test

import (
	"math"
	"strings"
	"testing"

	"lariat/api"
	"lariat/model"
)

// theModel: a model that may be, with something in each list there is; 6 instances, 5 command instances, 22 cells.
func theModel() api.Model {
	return api.Model{
		Scalars: []api.Scalar{{Name: "S", Size: 2}, {Name: "T", Size: 3}},
		Vars:    []api.Var{{Name: "x", Hi: 3, Init: 1}, {Name: "y", Over: 2, Lo: -1, Hi: 3}, {Name: "o", Scalar: 1, Over: 1}},
		Chans:   []api.Chan{{Name: "c", Cap: 2, Hi: 3, Lossy: true}, {Name: "d", Scalar: 2, Cap: 1}},
		Procs: []api.Proc{
			{Name: "P", Over: 1, Locs: 2, Vars: []api.Var{{Name: "a", Hi: 3}, {Name: "b", Scalar: 2, Init: 2}}, Cmds: []api.Cmd{
				{Name: "go", To: 1, Guard: alike(), Acts: []api.Act{
					{Kind: api.ActItem, To: 2, Index: one(api.XSelf, 0), Value: one(api.XSelf, 0)},
					{Kind: api.ActRecv, To: 1, Local: 1},
				}},
				{Name: "back", From: 1, Fair: true, Acts: []api.Act{{Kind: api.ActLocal, Value: one(api.XVar, 0)}}},
			}},
			{Name: "Q", Over: 2, Locs: 1},
			{Name: "R", Locs: 3, Vars: []api.Var{{Name: "a", Hi: 9}}, Cmds: []api.Cmd{{Name: "go", Acts: []api.Act{{Kind: api.ActSend, Value: one(api.XNum, 3)}}}}},
		},
		Props: []api.Prop{{Name: "p", Expr: alike()}, {Name: "q", Expr: []api.Node{{Op: api.XAt, N: 16 * 2}, {Op: api.XNum, N: 1}, {Op: api.XEq}}}},
	}
}

// one: an expression of one node.
func one(op, n int) []api.Node {
	return []api.Node{{Op: op, N: n}}
}

// alike: a truth that any scope has.
func alike() []api.Node {
	return []api.Node{{Op: api.XNum, N: 1}, {Op: api.XNum, N: 1}, {Op: api.XEq}}
}

// badNames: texts that are no names.
func badNames() []string {
	return []string{"", "9", "_a", "a b", " a", "a ", "é", "\xff", "self", "none", "len", "at", strings.Repeat("a", api.MaxName+1), strings.Repeat("a", 70000)}
}

// fault: why, in that part, at that item and sub.
func fault(why api.Errno, part, item, sub int) api.Fault {
	return api.Fault{Why: why, Part: part, Item: item, Sub: sub}
}

func check(t *testing.T, want api.Fault, m api.Model) {
	t.Helper()
	if got := model.Check(m); got != want {
		t.Errorf("Check = %+v, not %+v, of %+v", got, want, m)
	}
}

// spoilt: what is told of theModel when something is done to it.
func spoilt(t *testing.T, want api.Fault, do func(m *api.Model)) {
	t.Helper()
	m := theModel()
	do(&m)
	check(t, want, m)
}

// P15.1, P15.4: what may be.
func TestMayBe(t *testing.T) {
	check(t, api.Fault{}, api.Model{})
	check(t, api.Fault{}, theModel())
	spoilt(t, api.Fault{}, func(m *api.Model) { m.Props = nil })
	spoilt(t, api.Fault{}, func(m *api.Model) { m.Props[1].Name = "go" })
	spoilt(t, api.Fault{}, func(m *api.Model) { m.Props[1].Name = "a" })
	spoilt(t, api.Fault{}, func(m *api.Model) { m.Procs[0].Cmds[0].Name = "x" })
	for _, part := range []api.Model{{Scalars: theModel().Scalars}, {Chans: theModel().Chans[:1]}, {Vars: theModel().Vars[:1]}, {Procs: []api.Proc{{Name: "P", Locs: 1}}}, {Props: theModel().Props[:1]}} {
		check(t, api.Fault{}, part)
	}
}

// The example.
func TestExample(t *testing.T) {
	p := api.Prop{Name: "p", Expr: alike()}
	check(t, fault(api.ErrTwice, 5, 1, 0), api.Model{Props: []api.Prop{p, p}})
}

// P15.1: part 1.
func TestScalars(t *testing.T) {
	for _, name := range badNames() {
		spoilt(t, fault(api.ErrName, 1, 1, 0), func(m *api.Model) { m.Scalars[1].Name = name })
	}
	spoilt(t, fault(api.ErrTwice, 1, 1, 0), func(m *api.Model) { m.Scalars[1].Name = "S" })
	spoilt(t, fault(api.ErrMany, 1, 2, 0), func(m *api.Model) { m.Scalars = append(m.Scalars, api.Scalar{}) })
	spoilt(t, fault(api.ErrMany, 1, 2, 0), func(m *api.Model) { m.Scalars = append(m.Scalars, make([]api.Scalar, 70000)...) })
	for _, size := range []int{0, -1, api.MaxSize + 1, math.MaxInt, math.MinInt} {
		spoilt(t, fault(api.ErrRange, 1, 0, 0), func(m *api.Model) { m.Scalars[0].Size = size })
		spoilt(t, fault(api.ErrRange, 1, 1, 0), func(m *api.Model) { m.Scalars[1].Size = size })
	}
}

// P15.1: part 2.
func TestVars(t *testing.T) {
	for _, name := range badNames() {
		spoilt(t, fault(api.ErrName, 2, 1, 0), func(m *api.Model) { m.Vars[1].Name = name })
	}
	for _, name := range []string{"x", "y", "S", "T"} {
		spoilt(t, fault(api.ErrTwice, 2, 2, 0), func(m *api.Model) { m.Vars[2].Name = name })
	}
	for _, scalar := range []int{3, -1, math.MaxInt, math.MinInt} {
		spoilt(t, fault(api.ErrNone, 2, 0, 0), func(m *api.Model) { m.Vars[0].Scalar = scalar })
		spoilt(t, fault(api.ErrNone, 2, 1, 0), func(m *api.Model) { m.Vars[1].Over = scalar })
	}
	spoilt(t, fault(api.ErrRange, 2, 0, 0), func(m *api.Model) { m.Vars[0].Init = 4 })
	spoilt(t, fault(api.ErrRange, 2, 0, 0), func(m *api.Model) { m.Vars[0].Hi = api.MaxVals })
	for count := range api.MaxVars + 3 {
		m := api.Model{Vars: vars(count)}
		want := api.Fault{}
		if count > api.MaxVars {
			want = fault(api.ErrMany, 2, api.MaxVars, 0)
		}
		check(t, want, m)
	}
	check(t, fault(api.ErrMany, 2, api.MaxVars, 0), api.Model{Vars: append(vars(api.MaxVars), make([]api.Var, 70000)...)})
	// Of one variable decl's errors are first; of several the first one.
	spoilt(t, fault(api.ErrNone, 2, 1, 0), func(m *api.Model) { m.Vars[1].Name, m.Vars[1].Over = "S", 9 })
	spoilt(t, fault(api.ErrRange, 2, 1, 0), func(m *api.Model) { m.Vars[1].Name, m.Vars[1].Init = "S", 9 })
	spoilt(t, fault(api.ErrTwice, 2, 1, 0), func(m *api.Model) { m.Vars[1].Name, m.Vars[2].Name = "S", "" })
	spoilt(t, fault(api.ErrName, 2, 1, 0), func(m *api.Model) { m.Vars[1].Name, m.Vars[2].Name = "", "S" })
	spoilt(t, fault(api.ErrTwice, 2, 0, 0), func(m *api.Model) { m.Vars[0].Name, m.Vars[1].Name = "T", "T" })
	full := api.Model{Scalars: []api.Scalar{{Name: "S", Size: 1}}, Vars: append(vars(api.MaxVars), api.Var{})}
	full.Vars[11].Name = "S"
	check(t, fault(api.ErrTwice, 2, 11, 0), full)
	full.Vars[11].Name, full.Vars[12].Name = "z", "S"
	check(t, fault(api.ErrMany, 2, 12, 0), full)
}

// vars: so many variables that may be.
func vars(count int) []api.Var {
	var l []api.Var
	for i := range count {
		l = append(l, api.Var{Name: "v" + string(rune('a'+i)), Hi: 1})
	}
	return l
}

// P15.1: part 3.
func TestChans(t *testing.T) {
	for _, name := range badNames() {
		spoilt(t, fault(api.ErrName, 3, 1, 0), func(m *api.Model) { m.Chans[1].Name = name })
	}
	for _, name := range []string{"c", "S", "T", "x", "y", "o"} {
		spoilt(t, fault(api.ErrTwice, 3, 1, 0), func(m *api.Model) { m.Chans[1].Name = name })
	}
	for _, scalar := range []int{3, -1, math.MaxInt, math.MinInt} {
		spoilt(t, fault(api.ErrNone, 3, 0, 0), func(m *api.Model) { m.Chans[0].Scalar = scalar })
	}
	for _, room := range []int{0, -1, api.MaxCap + 1, math.MaxInt, math.MinInt} {
		spoilt(t, fault(api.ErrRange, 3, 1, 0), func(m *api.Model) { m.Chans[1].Cap = room })
	}
	for count := range api.MaxChans + 3 {
		m := api.Model{}
		for i := range count {
			m.Chans = append(m.Chans, api.Chan{Name: "c" + string(rune('a'+i)), Cap: 1})
		}
		want := api.Fault{}
		if count > api.MaxChans {
			want = fault(api.ErrMany, 3, api.MaxChans, 0)
		}
		check(t, want, m)
	}
	// Of one channel decl's errors are first; of several the first one.
	spoilt(t, fault(api.ErrRange, 3, 0, 0), func(m *api.Model) { m.Chans[0].Name, m.Chans[0].Cap = "S", 0 })
	spoilt(t, fault(api.ErrTwice, 3, 0, 0), func(m *api.Model) { m.Chans[0].Name, m.Chans[1].Name = "o", "" })
	spoilt(t, fault(api.ErrName, 3, 0, 0), func(m *api.Model) { m.Chans[0].Name, m.Chans[1].Name = "", "S" })
}

// P15.1: part 4, process by process.
func TestProcs(t *testing.T) {
	for _, name := range badNames() {
		spoilt(t, fault(api.ErrName, 4, 2, 0), func(m *api.Model) { m.Procs[2].Name = name })
	}
	for _, name := range []string{"S", "T", "x", "y", "o", "c", "d", "P", "Q"} {
		spoilt(t, fault(api.ErrTwice, 4, 2, 0), func(m *api.Model) { m.Procs[2].Name = name })
	}
	spoilt(t, fault(api.ErrNone, 4, 1, 0), func(m *api.Model) { m.Procs[1].Over = 3 })
	spoilt(t, fault(api.ErrRange, 4, 1, 0), func(m *api.Model) { m.Procs[1].Locs = 0 })
	spoilt(t, fault(api.ErrMany, 4, 1, 0), func(m *api.Model) { m.Procs[1].Cmds = make([]api.Cmd, api.MaxCmds+1) })
	// What the locals are told of is part 1, what the commands are, part 2 on.
	spoilt(t, fault(api.ErrName, 4, 0, 16+1), func(m *api.Model) { m.Procs[0].Vars[1].Name = "" })
	spoilt(t, fault(api.ErrTwice, 4, 0, 16+1), func(m *api.Model) { m.Procs[0].Vars[1].Name = "a" })
	spoilt(t, fault(api.ErrKind, 4, 2, 16), func(m *api.Model) { m.Procs[2].Vars[0].Over = 1 })
	spoilt(t, fault(api.ErrMany, 4, 2, 16+api.MaxLocals), func(m *api.Model) { m.Procs[2].Vars = vars(5) })
	spoilt(t, fault(api.ErrName, 4, 0, 32), func(m *api.Model) { m.Procs[0].Cmds[0].Name = "" })
	spoilt(t, fault(api.ErrKind, 4, 0, 33), func(m *api.Model) { m.Procs[0].Cmds[0].Guard = one(api.XNum, 1) })
	spoilt(t, fault(api.ErrForm, 4, 0, 35), func(m *api.Model) { m.Procs[0].Cmds[0].Acts[1].Kind = 6 })
	spoilt(t, fault(api.ErrTwice, 4, 0, 48), func(m *api.Model) { m.Procs[0].Cmds[1].Name = "go" })
	spoilt(t, fault(api.ErrShort, 4, 0, 50), func(m *api.Model) { m.Procs[0].Cmds[1].Acts[0].Value = nil })
	// A command of a process without scalar has no own element.
	spoilt(t, fault(api.ErrNone, 4, 2, 34), func(m *api.Model) { m.Procs[2].Cmds[0].Acts[0].Value = one(api.XSelf, 0) })
	// Expressions speak of channels and processes too, and of no locals of another process.
	for _, op := range []int{api.XLen, api.XAt} {
		spoilt(t, api.Fault{}, func(m *api.Model) { m.Procs[0].Cmds[1].Acts[0].Value = one(op, 1*(op-api.XLen)) })
		spoilt(t, fault(api.ErrNone, 4, 0, 50), func(m *api.Model) { m.Procs[0].Cmds[1].Acts[0].Value = one(op, 48) })
	}
	spoilt(t, api.Fault{}, func(m *api.Model) { m.Procs[2].Cmds[0].Acts[0].Value = one(api.XLocal, 0) })
	spoilt(t, fault(api.ErrNone, 4, 2, 34), func(m *api.Model) { m.Procs[2].Cmds[0].Acts[0].Value = one(api.XLocal, 1) })
	// Of one process proc's errors are first, then its name, then its locals' names.
	spoilt(t, fault(api.ErrRange, 4, 0, 0), func(m *api.Model) { m.Procs[0].Name, m.Procs[0].Locs = "x", 0 })
	spoilt(t, fault(api.ErrName, 4, 0, 48), func(m *api.Model) { m.Procs[0].Name, m.Procs[0].Cmds[1].Name = "x", "" })
	spoilt(t, fault(api.ErrTwice, 4, 0, 0), func(m *api.Model) { m.Procs[0].Name, m.Procs[0].Vars[0].Name = "x", "S" })
	spoilt(t, fault(api.ErrName, 4, 0, 48), func(m *api.Model) { m.Procs[0].Vars[0].Name, m.Procs[0].Cmds[1].Name = "S", "" })
	spoilt(t, fault(api.ErrTwice, 4, 0, 17), func(m *api.Model) { m.Procs[0].Vars[1].Name, m.Procs[1].Name = "S", "" })
}

// P15.1: part 4, locals whose name something else has; what stands behind their process, too.
func TestLocals(t *testing.T) {
	for _, name := range []string{"S", "T", "x", "y", "o", "c", "d", "P", "Q", "R"} {
		spoilt(t, fault(api.ErrTwice, 4, 0, 16), func(m *api.Model) { m.Procs[0].Vars[0].Name = name })
		spoilt(t, fault(api.ErrTwice, 4, 0, 17), func(m *api.Model) { m.Procs[0].Vars[1].Name = name })
		spoilt(t, fault(api.ErrTwice, 4, 2, 16), func(m *api.Model) { m.Procs[2].Vars[0].Name = name })
	}
	for _, name := range []string{"p", "q", "go", "back", "b", "s"} {
		spoilt(t, api.Fault{}, func(m *api.Model) { m.Procs[2].Vars[0].Name = name })
	}
	// A process may be no more, and its name is one yet.
	spoilt(t, fault(api.ErrTwice, 4, 0, 16), func(m *api.Model) {
		m.Procs[2] = api.Proc{Name: "a"}
	})
	spoilt(t, fault(api.ErrTwice, 4, 0, 17), func(m *api.Model) {
		m.Procs = append(m.Procs, make([]api.Proc, 70000)...)
		m.Procs[70002].Name = "b"
	})
}

// procs: so many processes that may be, over that scalar, with so many locals.
func procs(count, over, locals int) []api.Proc {
	var l []api.Proc
	for i := range count {
		l = append(l, api.Proc{Name: "P" + string(rune('a'+i)), Over: over, Locs: 1, Vars: vars(locals)})
	}
	return l
}

// P15.1, P15.5: how many processes, instances and cells there may be.
func TestBounds(t *testing.T) {
	for count := range api.MaxProcs + 3 {
		want := api.Fault{}
		if count > api.MaxProcs {
			want = fault(api.ErrMany, 4, api.MaxProcs, 0)
		}
		check(t, want, api.Model{Procs: procs(count, 0, 0)})
	}
	check(t, fault(api.ErrMany, 4, api.MaxProcs, 0), api.Model{Procs: append(procs(6, 0, 0), make([]api.Proc, 70000)...)})
	for size := 1; size <= api.MaxSize; size++ {
		for count := range api.MaxProcs + 1 {
			want := api.Fault{}
			if size*count > api.MaxInsts {
				want = fault(api.ErrMany, 4, count, 0)
			}
			check(t, want, api.Model{Scalars: []api.Scalar{{Name: "S", Size: size}}, Procs: procs(count, 1, 0)})
		}
	}
	// 12 instances of 1 and 2 locals are 36 cells; 4 channels of Cap 4 are 20, and 8 variables the rest.
	m := api.Model{Scalars: []api.Scalar{{Name: "S", Size: 4}}, Procs: procs(3, 1, 2)}
	for _, name := range []string{"a", "b", "c", "d"} {
		m.Chans = append(m.Chans, api.Chan{Name: name, Cap: 4})
	}
	for count := range api.MaxVars + 1 {
		m.Vars = nil
		for i := range count {
			m.Vars = append(m.Vars, api.Var{Name: "w" + string(rune('a'+i))})
		}
		want := api.Fault{}
		if count > 8 {
			want = fault(api.ErrMany, 4, 3, 0)
		}
		check(t, want, m)
	}
	m.Procs, m.Chans = nil, nil
	for i := range m.Vars {
		m.Vars[i].Over = 1
	}
	check(t, api.Fault{}, m) // 48
	m.Chans = []api.Chan{{Name: "a", Cap: 4}, {Name: "b", Cap: 4}, {Name: "c", Cap: 4}}
	check(t, api.Fault{}, m) // 63
	m.Procs = procs(1, 0, 0)
	check(t, api.Fault{}, m) // 64
	m.Props = []api.Prop{{}}
	check(t, fault(api.ErrName, 5, 0, 0), m)
	m.Procs = procs(1, 0, 1)
	check(t, fault(api.ErrMany, 4, 1, 0), m)
	m.Procs, m.Props = nil, nil
	m.Chans[2].Cap = 3
	m.Chans = append(m.Chans, api.Chan{Name: "d", Cap: 1})
	check(t, api.Fault{}, m) // 64
	m.Chans[3].Cap = 2
	check(t, fault(api.ErrMany, 4, 0, 0), m)
	// Each process is looked at ahead of how many there are together.
	m.Procs = append(procs(1, 0, 1), api.Proc{Name: "Q"})
	check(t, fault(api.ErrRange, 4, 1, 0), m)
}

// P15.1: part 5.
func TestProps(t *testing.T) {
	for _, name := range badNames() {
		spoilt(t, fault(api.ErrName, 5, 1, 0), func(m *api.Model) { m.Props[1].Name = name })
	}
	for _, name := range []string{"S", "T", "x", "y", "o", "c", "d", "P", "Q", "R", "p"} {
		spoilt(t, fault(api.ErrTwice, 5, 1, 0), func(m *api.Model) { m.Props[1].Name = name })
	}
	for _, x := range []struct {
		why api.Errno
		e   []api.Node
	}{
		{api.ErrShort, nil}, {api.ErrLong, make([]api.Node, api.MaxExpr+1)}, {api.ErrForm, one(0, 0)}, {api.ErrKind, one(api.XNum, 1)}, {api.ErrKind, one(api.XVar, 0)}, {api.ErrKind, one(api.XNone, 1)},
		{api.ErrNone, one(api.XSelf, 0)}, {api.ErrNone, one(api.XLocal, 0)}, {api.ErrNone, one(api.XVar, 3)}, {api.ErrNone, one(api.XLen, 2)}, {api.ErrNone, one(api.XAt, 16+1)}, {api.ErrNone, one(api.XAt, 48)}, {api.ErrNone, one(api.XNone, 2)},
		{api.ErrKind, one(api.XLen, 1)}, {api.ErrKind, one(api.XAt, 32+2)},
	} {
		spoilt(t, fault(x.why, 5, 1, 0), func(m *api.Model) { m.Props[1].Expr = x.e })
	}
	for count := range api.MaxProps + 3 {
		m := api.Model{}
		for i := range count {
			m.Props = append(m.Props, api.Prop{Name: "p" + string(rune('a'+i)), Expr: alike()})
		}
		want := api.Fault{}
		if count > api.MaxProps {
			want = fault(api.ErrMany, 5, api.MaxProps, 0)
			m.Props[api.MaxProps].Name = ""
		}
		check(t, want, m)
	}
	// Of one proposition the errors in this order; of several the first one.
	spoilt(t, fault(api.ErrName, 5, 0, 0), func(m *api.Model) { m.Props[0] = api.Prop{} })
	spoilt(t, fault(api.ErrTwice, 5, 0, 0), func(m *api.Model) { m.Props[0] = api.Prop{Name: "S"} })
	spoilt(t, fault(api.ErrShort, 5, 0, 0), func(m *api.Model) { m.Props[0] = api.Prop{Name: "s"} })
	spoilt(t, fault(api.ErrKind, 5, 0, 0), func(m *api.Model) { m.Props[0].Expr, m.Props[1].Name = one(api.XNum, 1), "" })
}

// P15.1: of several parts the first.
func TestOrder(t *testing.T) {
	m := theModel()
	m.Props[1].Name = ""
	check(t, fault(api.ErrName, 5, 1, 0), m)
	m.Vars[1].Over = 0
	m.Chans[0].Cap = 1
	m.Procs = append(m.Procs, procs(3, 2, 0)...)
	check(t, fault(api.ErrMany, 4, 6, 0), m)
	m.Procs[2].Name = ""
	check(t, fault(api.ErrName, 4, 2, 0), m)
	m.Chans[1].Name = ""
	check(t, fault(api.ErrName, 3, 1, 0), m)
	m.Vars[2].Name = ""
	check(t, fault(api.ErrName, 2, 2, 0), m)
	m.Scalars[1].Name = ""
	check(t, fault(api.ErrName, 1, 1, 0), m)
}

// P15.4: each name of the row, given to each thing behind it, is taken there.
func TestTaken(t *testing.T) {
	type named struct {
		name       *string
		part, item int
	}
	row := func(m *api.Model) []named {
		var l []named
		for i := range m.Scalars {
			l = append(l, named{&m.Scalars[i].Name, 1, i})
		}
		for i := range m.Vars {
			l = append(l, named{&m.Vars[i].Name, 2, i})
		}
		for i := range m.Chans {
			l = append(l, named{&m.Chans[i].Name, 3, i})
		}
		for i := range m.Procs {
			l = append(l, named{&m.Procs[i].Name, 4, i})
		}
		for i := range m.Props {
			l = append(l, named{&m.Props[i].Name, 5, i})
		}
		return l
	}
	fresh := theModel()
	for i := range row(&fresh) {
		for j := range i {
			m := theModel()
			l := row(&m)
			*l[i].name = *l[j].name
			check(t, fault(api.ErrTwice, l[i].part, l[i].item, 0), m)
			if m.Props = nil; l[i].part == 5 {
				check(t, api.Fault{}, m)
			}
		}
	}
}
