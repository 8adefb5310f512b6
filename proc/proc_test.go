package proc_test

import (
	"math"
	"reflect"
	"slices"
	"strings"
	"testing"

	"lariat/api"
	"lariat/proc"
)

// told: what Check tells.
type told struct {
	part, at int
	why      api.Errno
}

func check(t *testing.T, want told, p api.Proc) {
	t.Helper()
	checkOf(t, want, p, theScope())
}

func checkOf(t *testing.T, want told, p api.Proc, s api.Scope) {
	t.Helper()
	if part, at, why := proc.Check(p, s); (told{part, at, why}) != want {
		t.Errorf("Check(%v) = %d, %d, %v, not %v", p, part, at, why, want)
	}
}

// theScope: that of a model, with locals and an own element that play no part.
func theScope() api.Scope {
	return api.Scope{
		Scalars: []api.Scalar{{Name: "S", Size: 2}, {Name: "T", Size: 3}},
		Vars:    []api.Var{{Name: "x", Hi: 3}, {Name: "y", Scalar: 1}, {Name: "z", Over: 2, Hi: 3}},
		Chans:   []api.Chan{{Name: "c", Cap: 2, Hi: 3}, {Name: "d", Scalar: 2, Cap: 1}},
		Procs:   []api.Proc{{Name: "P", Locs: 2}, {Name: "Q", Over: 1, Locs: 3}},
		Locals:  []api.Var{{Name: "h", Hi: 3}, {Name: "i", Hi: 3}, {Name: "j", Hi: 3}},
		Self:    1,
	}
}

// theProc: a process that may be, over the second scalar, with two locals and two commands.
func theProc() api.Proc {
	return api.Proc{Name: "P", Over: 2, Locs: 2, Vars: []api.Var{number("a"), {Name: "b", Scalar: 2}}, Cmds: []api.Cmd{
		{Name: "go", To: 1, Guard: truth(), Acts: []api.Act{
			{Kind: api.ActItem, To: 2, Index: one(api.XSelf, 0), Value: one(api.XLocal, 0)},
			{Kind: api.ActRecv, To: 1, Local: 1},
		}},
		{Name: "back", From: 1, Fair: true},
	}}
}

// number: a local of numbers.
func number(name string) api.Var {
	return api.Var{Name: name, Hi: 3}
}

// command: a command that may be, of that name.
func command(name string) api.Cmd {
	return api.Cmd{Name: name}
}

// commands: so many commands that may be.
func commands(count int) []api.Cmd {
	var l []api.Cmd
	for i := range count {
		l = append(l, command("c"+string(rune('a'+i))))
	}
	return l
}

// one: an expression of one node.
func one(op, n int) []api.Node {
	return []api.Node{{Op: op, N: n}}
}

// truth: the own element is none.
func truth() []api.Node {
	return []api.Node{{Op: api.XSelf}, {Op: api.XNone, N: 1}, {Op: api.XEq}}
}

// badNames: texts that are no names.
func badNames() []string {
	return []string{"", "9", "_a", "a b", " a", "a ", "é", "\xff", "self", "none", "len", "at", strings.Repeat("a", api.MaxName+1), strings.Repeat("a", 70000)}
}

// P14.1: the process at part 0.
func TestFrame(t *testing.T) {
	check(t, told{}, theProc())
	check(t, told{}, api.Proc{Name: "P", Locs: 1})
	for _, name := range badNames() {
		p := theProc()
		p.Name = name
		check(t, told{0, 0, api.ErrName}, p)
	}
	for _, name := range []string{"a", "Z", "a_9", "proc", "x", "S", "c", strings.Repeat("a", api.MaxName)} {
		check(t, told{}, api.Proc{Name: name, Locs: 1})
	}
	for _, over := range []int{math.MinInt, -1, 0, 1, 2, 3, 4, math.MaxInt} {
		want := told{0, 0, api.ErrNone}
		if 0 <= over && over <= 2 {
			want = told{}
		}
		check(t, want, api.Proc{Name: "P", Over: over, Locs: 1})
	}
	checkOf(t, told{}, api.Proc{Name: "P", Locs: 1}, api.Scope{})
	checkOf(t, told{0, 0, api.ErrNone}, api.Proc{Name: "P", Over: 1, Locs: 1}, api.Scope{})
	// Of the scalar that it is over nothing more is asked.
	checkOf(t, told{}, api.Proc{Name: "P", Over: 3, Locs: 1}, api.Scope{Scalars: make([]api.Scalar, 3)})
	for _, locs := range []int{math.MinInt, -1, 0, 1, 2, api.MaxLocs, api.MaxLocs + 1, math.MaxInt} {
		want := told{0, 0, api.ErrRange}
		if 1 <= locs && locs <= api.MaxLocs {
			want = told{}
		}
		check(t, want, api.Proc{Name: "P", Locs: locs})
	}
	for count := range api.MaxCmds + 4 {
		want := told{}
		if count > api.MaxCmds {
			want = told{0, 0, api.ErrMany}
		}
		check(t, want, api.Proc{Name: "P", Locs: 1, Cmds: commands(count)})
	}
	check(t, told{0, 0, api.ErrMany}, api.Proc{Name: "P", Locs: 1, Cmds: make([]api.Cmd, 70000)})
}

// P14.1: the locals at part 1.
func TestLocals(t *testing.T) {
	with := func(want told, l ...api.Var) {
		t.Helper()
		check(t, want, api.Proc{Name: "P", Locs: 1, Vars: l})
	}
	some := []api.Var{number("a"), number("b"), number("e"), number("f"), number("g")}
	for count := range api.MaxLocals + 1 {
		with(told{}, some[:count]...)
	}
	with(told{1, api.MaxLocals, api.ErrMany}, some...)
	with(told{1, 2, api.ErrTwice}, some[0], some[1], some[0])
	with(told{1, 1, api.ErrRange}, some[0], api.Var{Name: "b", Lo: 1})
	for _, name := range badNames() {
		with(told{1, 1, api.ErrName}, some[0], number(name))
	}
	for _, scalar := range []int{3, -1, math.MaxInt, math.MinInt} {
		with(told{1, 0, api.ErrNone}, api.Var{Name: "a", Scalar: scalar})
		with(told{1, 0, api.ErrNone}, api.Var{Name: "a", Over: scalar})
	}
	with(told{1, 1, api.ErrKind}, some[0], api.Var{Name: "b", Over: 1})
	with(told{1, 0, api.ErrKind}, api.Var{Name: "a", Scalar: 1, Over: 2}, api.Var{Name: "x", Over: 2})
	for _, name := range []string{"x", "y", "z"} {
		with(told{1, 2, api.ErrTwice}, some[0], some[1], number(name))
		// Of one local it is first that it is over something.
		with(told{1, 0, api.ErrKind}, api.Var{Name: name, Over: 1})
	}
	// All of decl's errors come ahead of these.
	with(told{1, 2, api.ErrRange}, number("x"), api.Var{Name: "b", Over: 1}, api.Var{Name: "e", Lo: 1})
	with(told{1, 0, api.ErrTwice}, number("x"), api.Var{Name: "b", Over: 1})
	with(told{1, 0, api.ErrKind}, api.Var{Name: "b", Over: 1}, number("x"))
	// The names of scalars, channels, processes and of the scope's own locals are free here.
	with(told{}, number("S"), number("c"), number("P"), number("h"))
	checkOf(t, told{}, api.Proc{Name: "P", Locs: 1, Vars: some[:4]}, api.Scope{})
	checkOf(t, told{1, 1, api.ErrTwice}, api.Proc{Name: "P", Locs: 1, Vars: some[:4]}, api.Scope{Vars: append(make([]api.Var, 70000), api.Var{Name: "b", Scalar: 9})})
}

// P14.1: the commands, from part 2 on.
func TestCommands(t *testing.T) {
	with := func(want told, l ...api.Cmd) {
		t.Helper()
		p := theProc()
		p.Cmds = l
		check(t, want, p)
	}
	bad := []struct {
		at  int
		why api.Errno
		c   api.Cmd
	}{
		{0, api.ErrName, api.Cmd{Name: "at"}},
		{0, api.ErrRange, api.Cmd{Name: "ca", To: 2}},
		{0, api.ErrMany, api.Cmd{Name: "ca", Acts: make([]api.Act, api.MaxActs+1)}},
		{1, api.ErrKind, api.Cmd{Name: "ca", Guard: one(api.XSelf, 0)}},
		{2, api.ErrForm, api.Cmd{Name: "ca", Acts: make([]api.Act, 1)}},
		{3, api.ErrNone, api.Cmd{Name: "ca", Acts: []api.Act{{Kind: api.ActRecv, To: 1, Local: 1}, {Kind: api.ActLocal, To: 2}}}},
	}
	for count := range api.MaxCmds {
		for _, x := range bad {
			with(told{2 + count, x.at, x.why}, append(commands(count), x.c)...)
			if count < api.MaxCmds-1 {
				with(told{2 + count, x.at, x.why}, append(commands(count), x.c, api.Cmd{})...)
			}
		}
		if count > 0 {
			with(told{2 + count, 0, api.ErrTwice}, append(commands(count), command("ca"))...)
			with(told{2 + count, 0, api.ErrTwice}, append(commands(count), commands(count)[count-1])...)
		}
	}
	// A command that has a name twice and may not be is told by what it may not be.
	with(told{3, 0, api.ErrRange}, command("ca"), api.Cmd{Name: "ca", From: -1})
	with(told{3, 2, api.ErrForm}, command("ca"), api.Cmd{Name: "ca", Acts: make([]api.Act, 1)})
	with(told{3, 0, api.ErrTwice}, command("ca"), command("ca"), api.Cmd{})
	// Names of anything else are free.
	with(told{}, command("x"), command("S"), command("a"), command("P"), command("c"))
}

// P14.1: commands stand in the scope of the process; the Locals and the Self of s play no part.
func TestScopeOfCommands(t *testing.T) {
	p := theProc()
	check(t, told{}, p)
	p.Over = 1
	check(t, told{2, 1, api.ErrKind}, p)
	p.Over = 0
	check(t, told{2, 1, api.ErrNone}, p)
	p.Over, p.Vars = 2, p.Vars[:1]
	check(t, told{2, 3, api.ErrNone}, p)
	p.Vars = nil
	check(t, told{2, 2, api.ErrNone}, p)
	p = theProc()
	p.Cmds[0].Guard = []api.Node{{Op: api.XAt, N: 16 + 2}, {Op: api.XNum}, {Op: api.XEq}}
	check(t, told{}, p)
	s := theScope()
	s.Procs = s.Procs[:1]
	checkOf(t, told{2, 1, api.ErrNone}, p, s)
}

// P14.1: of several parts the first.
func TestOrder(t *testing.T) {
	p := api.Proc{Name: "9", Over: 3, Locs: 0, Vars: []api.Var{{}}, Cmds: make([]api.Cmd, api.MaxCmds+1)}
	check(t, told{0, 0, api.ErrName}, p)
	p.Name = "P"
	check(t, told{0, 0, api.ErrNone}, p)
	p.Over = 2
	check(t, told{0, 0, api.ErrRange}, p)
	p.Locs = 2
	check(t, told{0, 0, api.ErrMany}, p)
	p.Cmds = p.Cmds[:api.MaxCmds]
	check(t, told{1, 0, api.ErrName}, p)
	p.Vars[0] = api.Var{Name: "x", Over: 1}
	check(t, told{1, 0, api.ErrKind}, p)
	p.Vars[0] = number("x")
	check(t, told{1, 0, api.ErrTwice}, p)
	p.Vars[0] = number("a")
	check(t, told{2, 0, api.ErrName}, p)
	p.Cmds = slices.Concat(commands(3), p.Cmds[:2])
	check(t, told{5, 0, api.ErrName}, p)
	p.Cmds = p.Cmds[:3]
	check(t, told{}, p)
}

// P14.1: what is handed in stays as it is.
func TestUnchanged(t *testing.T) {
	p, s := theProc(), theScope()
	checkOf(t, told{}, p, s)
	p.Cmds = append(p.Cmds, command("go"))
	checkOf(t, told{4, 0, api.ErrTwice}, p, s)
	p.Cmds = p.Cmds[:2]
	if !reflect.DeepEqual(p, theProc()) || !reflect.DeepEqual(s, theScope()) {
		t.Error("changed", p, s)
	}
}
