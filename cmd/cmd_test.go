package cmd_test

import (
	"math"
	"math/rand"
	"reflect"
	"slices"
	"strings"
	"testing"

	"lariat/api"
	"lariat/cmd"
)

// told: what Check tells.
type told struct {
	at  int
	why api.Errno
}

func check(t *testing.T, want told, c api.Cmd) {
	t.Helper()
	checkOf(t, want, c, theProc(), theScope())
}

func checkOf(t *testing.T, want told, c api.Cmd, p api.Proc, s api.Scope) {
	t.Helper()
	if at, why := cmd.Check(c, p, s); (told{at, why}) != want {
		t.Errorf("Check(%v) = %d, %v, not %v", c, at, why, want)
	}
}

// theProc: a process of three locations. Its other fields are raw: they play no part.
func theProc() api.Proc {
	return api.Proc{Name: "9", Over: -3, Locs: 3, Vars: []api.Var{{Name: "?", Scalar: 9}}, Cmds: []api.Cmd{{Name: "go"}}}
}

// theScope: two scalars; variables, locals and channels of each kind, such that are over a scalar, and such that are none; an own element of the second scalar.
func theScope() api.Scope {
	return api.Scope{
		Scalars: []api.Scalar{{Name: "S", Size: 2}, {Name: "T", Size: 3}},
		Vars: []api.Var{
			{Name: "n", Hi: 3}, {Name: "s", Scalar: 1}, {Name: "t", Scalar: 2},
			{Name: "nS", Over: 1, Hi: 3}, {Name: "tT", Scalar: 2, Over: 2}, {Name: "sT", Scalar: 1, Over: 2},
			{Scalar: 3}, {Scalar: -1}, {Over: 3}, {Over: -1}, {Scalar: math.MaxInt, Over: 1}, {Scalar: 1, Over: math.MinInt}, {Scalar: 3, Over: 1},
		},
		Chans:  []api.Chan{{Name: "c", Cap: 2, Hi: 1}, {Name: "d", Scalar: 2, Cap: 1}, {Scalar: 3}, {Scalar: -1}, {Name: "e", Scalar: 1, Cap: 1, Lossy: true}, {Scalar: math.MaxInt}},
		Procs:  []api.Proc{{Name: "P", Locs: 2}},
		Locals: []api.Var{{Name: "a", Hi: 9}, {Name: "b", Scalar: 2}, {Name: "f", Scalar: 1}, {Name: "o", Over: 1}, {Scalar: 3}, {Over: 7}, {Scalar: -1, Over: 1}},
		Self:   2,
	}
}

// thing: the kind of what stands at a place of theScope, and of what it is over (0: nothing).
type thing struct {
	kind, over int
}

func theVars() map[int]thing {
	return map[int]thing{0: {0, 0}, 1: {2, 0}, 2: {3, 0}, 3: {0, 2}, 4: {3, 3}, 5: {2, 3}}
}

func theLocals() map[int]thing {
	return map[int]thing{0: {0, 0}, 1: {3, 0}, 2: {2, 0}, 3: {0, 2}}
}

func theChans() map[int]thing {
	return map[int]thing{0: {0, 0}, 1: {3, 0}, 4: {2, 0}}
}

// expression: an expression, and its kind in theScope, or why it has none.
type expression struct {
	e    []api.Node
	kind int
	why  api.Errno
}

// one: an expression of one node.
func one(op, n int) []api.Node {
	return []api.Node{{Op: op, N: n}}
}

// yes: an expression that is a truth.
func yes() []api.Node {
	return append(slices.Concat(one(api.XNum, 2), one(api.XNum, 3)), api.Node{Op: api.XEq})
}

// theExpressions: of each kind one that is right or more, and of each error one.
func theExpressions() []expression {
	number := one(api.XNum, 1)
	return []expression{
		{e: number}, {e: one(api.XLen, 1)}, {e: one(api.XLocal, 0)}, {e: one(api.XAt, 1)},
		{e: yes(), kind: 1},
		{e: one(api.XNone, 0), kind: 2}, {e: one(api.XVar, 1), kind: 2}, {e: one(api.XLocal, 2), kind: 2},
		{e: one(api.XSelf, 0), kind: 3}, {e: one(api.XLocal, 1), kind: 3}, {e: append(one(api.XSelf, 0), api.Node{Op: api.XItem, N: 4}), kind: 3},
		{why: api.ErrShort},
		{e: []api.Node{}, why: api.ErrShort},
		{e: one(api.XNot, 0), why: api.ErrShort},
		{e: slices.Repeat(number, api.MaxExpr+1), why: api.ErrLong},
		{e: slices.Repeat(number, 2), why: api.ErrLong},
		{e: slices.Repeat(number, api.MaxStack+1), why: api.ErrDeep},
		{e: one(99, 0), why: api.ErrForm},
		{e: one(api.XVar, 99), why: api.ErrNone},
		{e: one(api.XVar, 3), why: api.ErrKind},
		{e: append(one(api.XNum, 1), api.Node{Op: api.XNot}), why: api.ErrKind},
		{e: one(api.XNum, api.MaxNum+1), why: api.ErrRange},
	}
}

// asks: what is wrong with an expression that should be of that kind.
func (x expression) asks(kind int) api.Errno {
	if x.why == api.OK && x.kind != kind {
		return api.ErrKind
	}
	return x.why
}

// theAct: what is wrong with an act of that Kind, To and Local, with these expressions, that no sending or receiving stands ahead of.
func theAct(kind, to, local int, index, value expression) api.Errno {
	things, ok := map[int]map[int]thing{api.ActSet: theVars(), api.ActItem: theVars(), api.ActLocal: theLocals(), api.ActSend: theChans(), api.ActRecv: theChans()}[kind]
	if !ok {
		return api.ErrForm
	}
	goal, ok := things[to]
	if !ok {
		return api.ErrNone
	}
	if (goal.over != 0) != (kind == api.ActItem) {
		return api.ErrKind
	}
	if kind == api.ActRecv {
		into, ok := theLocals()[local]
		if !ok {
			return api.ErrNone
		}
		if into.over != 0 || into.kind != goal.kind {
			return api.ErrKind
		}
		return api.OK
	}
	if kind == api.ActItem {
		if why := index.asks(goal.over); why != api.OK {
			return why
		}
	}
	return value.asks(goal.kind)
}

// named: a command of these acts that is right, if they are.
func named(l ...api.Act) api.Cmd {
	return api.Cmd{Name: "go", From: 1, To: 2, Acts: l}
}

// set, item, local, send, recv: acts that are right, in theScope.
func set() api.Act {
	return api.Act{Kind: api.ActSet, To: 0, Value: one(api.XNum, 1)}
}

func item() api.Act {
	return api.Act{Kind: api.ActItem, To: 5, Index: one(api.XSelf, 0), Value: one(api.XNone, 0)}
}

func local() api.Act {
	return api.Act{Kind: api.ActLocal, To: 1, Value: one(api.XSelf, 0)}
}

func send() api.Act {
	return api.Act{Kind: api.ActSend, To: 4, Value: one(api.XLocal, 2)}
}

func recv() api.Act {
	return api.Act{Kind: api.ActRecv, To: 1, Local: 1}
}

// badNames: texts that are no names.
func badNames() []string {
	return []string{"", "9", "_a", "a b", "a-b", " a", "a ", "é", "aé", "\xff", "self", "none", "len", "at", strings.Repeat("a", api.MaxName+1), strings.Repeat("a", 70000)}
}

// far: numbers that are no place of anything.
func far() []int {
	return []int{-1, -2, 13, 99, math.MaxInt, math.MinInt}
}

// P13.1: the command at place 0.
func TestFrame(t *testing.T) {
	check(t, told{}, named())
	for _, name := range badNames() {
		check(t, told{0, api.ErrName}, api.Cmd{Name: name})
	}
	for _, name := range []string{"a", "Z", "a_9", "selfs", "when", "set", strings.Repeat("a", api.MaxName)} {
		check(t, told{}, api.Cmd{Name: name})
	}
	for locs := -1; locs < 5; locs++ {
		for from := -2; from < 6; from++ {
			for to := -2; to < 6; to++ {
				want := told{0, api.ErrRange}
				if 0 <= from && from < locs && 0 <= to && to < locs {
					want = told{}
				}
				checkOf(t, want, api.Cmd{Name: "go", From: from, To: to}, api.Proc{Locs: locs}, api.Scope{})
			}
		}
	}
	for _, n := range far() {
		check(t, told{0, api.ErrRange}, api.Cmd{Name: "go", From: n, To: 1})
		check(t, told{0, api.ErrRange}, api.Cmd{Name: "go", From: 1, To: n})
	}
	// There may be more locations than a process has.
	checkOf(t, told{}, api.Cmd{Name: "go", From: math.MaxInt - 1, To: 70}, api.Proc{Locs: math.MaxInt}, api.Scope{})
	checkOf(t, told{0, api.ErrRange}, api.Cmd{Name: "go"}, api.Proc{Locs: math.MinInt}, api.Scope{})
	for count := range 10 {
		want := told{}
		if count > api.MaxActs {
			want = told{0, api.ErrMany}
		}
		check(t, want, named(slices.Repeat([]api.Act{set()}, count)...))
	}
	check(t, told{0, api.ErrMany}, named(make([]api.Act, 70000)...))
}

// P13.1: the guard at place 1.
func TestGuard(t *testing.T) {
	for _, x := range theExpressions() {
		want := told{1, x.asks(1)}
		if len(x.e) == 0 || want.why == api.OK {
			want = told{}
		}
		c := named(set())
		c.Guard = x.e
		check(t, want, c)
	}
	// It stands in the scope that is handed in.
	c := named()
	c.Guard = append(slices.Concat(one(api.XSelf, 0), one(api.XLocal, 2)), api.Node{Op: api.XEq})
	check(t, told{1, api.ErrKind}, c)
	s := theScope()
	s.Self = 1
	checkOf(t, told{}, c, theProc(), s)
	s.Self = 0
	checkOf(t, told{1, api.ErrNone}, c, theProc(), s)
	s.Self, s.Locals = 1, s.Locals[:2]
	checkOf(t, told{1, api.ErrNone}, c, theProc(), s)
}

// P13.1, P13.2: of several that are wrong the first one, and of one the first error.
func TestOrder(t *testing.T) {
	bad := api.Cmd{Name: "at", From: 3, To: -1, Guard: one(99, 0), Acts: make([]api.Act, api.MaxActs+1)}
	check(t, told{0, api.ErrName}, bad)
	bad.Name = "go"
	check(t, told{0, api.ErrRange}, bad)
	bad.From = 0
	check(t, told{0, api.ErrRange}, bad)
	bad.From, bad.To = 3, 0
	check(t, told{0, api.ErrRange}, bad)
	bad.From = 0
	check(t, told{0, api.ErrMany}, bad)
	bad.Acts = bad.Acts[1:]
	check(t, told{1, api.ErrForm}, bad)
	bad.Guard = one(api.XNum, 1)
	check(t, told{1, api.ErrKind}, bad)
	bad.Guard = yes()
	check(t, told{2, api.ErrForm}, bad)
	bad.Acts = []api.Act{set(), item(), {Kind: api.ActSet, To: -1}, {}}
	check(t, told{4, api.ErrNone}, bad)
	for at := range api.MaxActs {
		acts := slices.Repeat([]api.Act{set()}, api.MaxActs)
		acts[at] = api.Act{Kind: api.ActLocal, To: 3}
		if at < api.MaxActs-1 {
			acts[at+1] = api.Act{}
		}
		check(t, told{2 + at, api.ErrKind}, named(acts...))
	}
}

// P13.2: all acts of a row of numbers and expressions.
func TestActs(t *testing.T) {
	places := append([]int{0, 1, 2, 3, 4, 5, 6, 7, 8, 9, 10, 11, 12}, far()...)
	for kind := -1; kind < 8; kind++ {
		for _, to := range places {
			for _, index := range theExpressions() {
				for _, value := range theExpressions() {
					checkAct(t, kind, to, 0, index, value)
				}
			}
		}
	}
	none := theExpressions()[11]
	for _, to := range places {
		for _, local := range places {
			checkAct(t, api.ActRecv, to, local, none, none)
		}
	}
	for _, kind := range []int{math.MinInt, math.MaxInt, 99} {
		checkAct(t, kind, 0, 0, none, theExpressions()[0])
	}
}

func checkAct(t *testing.T, kind, to, local int, index, value expression) {
	t.Helper()
	want := told{2, theAct(kind, to, local, index, value)}
	if want.why == api.OK {
		want = told{}
	}
	check(t, want, named(api.Act{Kind: kind, To: to, Local: local, Index: index.e, Value: value.e}))
}

// P13.2: of an act the first error. What a Kind does not name is not looked at.
func TestOrderOfActs(t *testing.T) {
	junk := one(99, math.MaxInt)
	for _, x := range []struct {
		why api.Errno
		a   api.Act
	}{
		{api.ErrForm, api.Act{To: -1, Local: -1, Index: junk, Value: junk}},
		{api.ErrNone, api.Act{Kind: api.ActSet, To: 13, Value: junk}},
		{api.ErrKind, api.Act{Kind: api.ActSet, To: 3, Value: junk}},
		{api.ErrNone, api.Act{Kind: api.ActSet, To: 12, Value: junk}}, // over something, but of no scalar that there is
		{api.ErrForm, api.Act{Kind: api.ActSet, To: 0, Value: junk}},
		{api.OK, api.Act{Kind: api.ActSet, To: 0, Local: -1, Index: junk, Value: one(api.XNum, 1)}},
		{api.ErrNone, api.Act{Kind: api.ActItem, To: 13, Index: junk, Value: junk}},
		{api.ErrNone, api.Act{Kind: api.ActItem, To: 6, Index: junk, Value: junk}}, // plain, but of no scalar that there is
		{api.ErrKind, api.Act{Kind: api.ActItem, To: 0, Index: junk, Value: junk}},
		{api.ErrForm, api.Act{Kind: api.ActItem, To: 4, Index: junk, Value: nil}},
		{api.ErrKind, api.Act{Kind: api.ActItem, To: 4, Index: one(api.XNone, 0), Value: junk}},
		{api.ErrShort, api.Act{Kind: api.ActItem, To: 4, Index: one(api.XNone, 1)}},
		{api.ErrKind, api.Act{Kind: api.ActItem, To: 4, Index: one(api.XNone, 1), Value: one(api.XNum, 1)}},
		{api.OK, api.Act{Kind: api.ActItem, To: 4, Local: -1, Index: one(api.XNone, 1), Value: one(api.XNone, 1)}},
		{api.ErrNone, api.Act{Kind: api.ActLocal, To: 4, Value: junk}},
		{api.ErrKind, api.Act{Kind: api.ActLocal, To: 3, Value: junk}},
		{api.ErrForm, api.Act{Kind: api.ActLocal, To: 2, Value: junk}},
		{api.OK, api.Act{Kind: api.ActLocal, To: 2, Local: 99, Index: junk, Value: one(api.XNone, 0)}},
		{api.ErrNone, api.Act{Kind: api.ActSend, To: 2, Value: junk}},
		{api.ErrForm, api.Act{Kind: api.ActSend, To: 1, Value: junk}},
		{api.OK, api.Act{Kind: api.ActSend, To: 1, Local: 99, Index: junk, Value: one(api.XSelf, 0)}},
		{api.ErrNone, api.Act{Kind: api.ActRecv, To: 3, Local: 3}},
		{api.ErrNone, api.Act{Kind: api.ActRecv, To: 0, Local: 5}},
		{api.ErrKind, api.Act{Kind: api.ActRecv, To: 0, Local: 3}},
		{api.ErrKind, api.Act{Kind: api.ActRecv, To: 0, Local: 1}},
		{api.OK, api.Act{Kind: api.ActRecv, To: 0, Local: 0, Index: junk, Value: junk}},
	} {
		want := told{3, x.why}
		if x.why == api.OK {
			want = told{}
		}
		check(t, want, named(set(), x.a))
	}
}

// P13.2: of sending and receiving there is but one, whatever stands between.
func TestTwice(t *testing.T) {
	check(t, told{3, api.ErrTwice}, named(send(), send()))
	for _, first := range []api.Act{send(), recv()} {
		for _, second := range []api.Act{send(), recv(), {Kind: api.ActSend, To: -1, Value: one(99, 0)}, {Kind: api.ActRecv, To: 99, Local: -1}} {
			check(t, told{3, api.ErrTwice}, named(first, second))
			check(t, told{7, api.ErrTwice}, named(first, set(), item(), local(), set(), second))
			check(t, told{5, api.ErrTwice}, named(set(), first, local(), second, api.Act{}))
			check(t, told{4, api.ErrForm}, named(set(), first, api.Act{}, second))
		}
		check(t, told{}, named(first, set(), set(), item(), item(), local()))
		check(t, told{}, named(local(), local(), item(), set(), set(), first))
		check(t, told{3, api.ErrForm}, named(first, api.Act{Kind: 6}))
		check(t, told{3, api.ErrForm}, named(first, api.Act{Kind: 0}))
	}
	check(t, told{2, api.ErrNone}, named(api.Act{Kind: api.ActSend, To: -1}, send()))
}

// P13.2: variables, locals and channels are those of the scope; p's own play no part.
func TestScope(t *testing.T) {
	p := api.Proc{Locs: 3, Vars: []api.Var{{Name: "x", Hi: 3}}}
	c := named(api.Act{Kind: api.ActLocal, Value: one(api.XNum, 1)})
	checkOf(t, told{2, api.ErrNone}, c, p, api.Scope{})
	checkOf(t, told{}, c, p, api.Scope{Locals: p.Vars})
	checkOf(t, told{}, c, api.Proc{Locs: 3}, api.Scope{Locals: p.Vars})
	checkOf(t, told{2, api.ErrNone}, named(set()), p, api.Scope{Locals: p.Vars})
	checkOf(t, told{}, named(set()), p, api.Scope{Vars: p.Vars})
	for _, a := range []api.Act{set(), item(), local(), send(), recv()} {
		checkOf(t, told{2, api.ErrNone}, named(a), p, api.Scope{})
	}
}

// P13.3
func TestComm(t *testing.T) {
	one := func(kind, to int) api.Act { return api.Act{Kind: kind, To: to, Local: 5} }
	for _, x := range []struct {
		kind, to int
		l        []api.Act
	}{
		{0, 0, nil},
		{0, 0, []api.Act{one(1, 7), one(2, 8), one(3, 9), one(0, 4), one(6, 4), one(-4, 4)}},
		{4, 2, []api.Act{one(4, 2)}},
		{5, 3, []api.Act{one(5, 3)}},
		{4, 2, []api.Act{one(1, 1), one(4, 2), one(5, 3)}},
		{5, 3, []api.Act{one(3, 1), one(9, 1), one(5, 3), one(4, 2)}},
		{4, math.MinInt, []api.Act{one(4, math.MinInt), one(4, 0)}},
		{5, math.MaxInt, append(make([]api.Act, 70000), one(5, math.MaxInt))},
	} {
		// Nothing else of the command is looked at.
		if kind, to := cmd.Comm(api.Cmd{From: -1, To: 99, Guard: make([]api.Node, 99), Acts: x.l}); kind != x.kind || to != x.to {
			t.Error(kind, to, "not", x.kind, x.to)
		}
	}
}

// P13.3
func TestWays(t *testing.T) {
	chans := []api.Chan{{Name: "c", Cap: 1}, {Lossy: true}, {Lossy: true, Scalar: -5, Cap: -1}, {}}
	for _, x := range []struct {
		ways int
		l    []api.Act
	}{
		{1, nil},
		{1, []api.Act{{Kind: api.ActSet, To: 1}}},
		{1, []api.Act{{Kind: api.ActSend, To: 0}}}, {2, []api.Act{{Kind: api.ActSend, To: 1}}}, {2, []api.Act{{Kind: api.ActSend, To: 2}}}, {1, []api.Act{{Kind: api.ActSend, To: 3}}},
		{1, []api.Act{{Kind: api.ActSend, To: 4}}}, {1, []api.Act{{Kind: api.ActSend, To: -1}}},
		{1, []api.Act{{Kind: api.ActSend, To: math.MaxInt}}}, {1, []api.Act{{Kind: api.ActSend, To: math.MinInt}}},
		{1, []api.Act{{Kind: api.ActRecv, To: 1}}}, {1, []api.Act{{Kind: api.ActRecv, To: 1}, {Kind: api.ActSend, To: 1}}},
		{2, []api.Act{{Kind: api.ActSet}, {Kind: 77, To: 1}, {Kind: api.ActSend, To: 1}}},
		{1, []api.Act{{Kind: api.ActSend, To: 0}, {Kind: api.ActSend, To: 1}}}, {2, []api.Act{{Kind: api.ActSend, To: 1}, {Kind: api.ActSend, To: 0}}},
	} {
		if ways := cmd.Ways(api.Cmd{From: -1, Acts: x.l}, chans); ways != x.ways {
			t.Error(x.l, ways, "not", x.ways)
		}
	}
	if ways := cmd.Ways(named(send()), nil); ways != 1 {
		t.Error(ways)
	}
	if ways := cmd.Ways(named(send()), chans[:2]); ways != 1 {
		t.Error(ways)
	}
	if ways := cmd.Ways(api.Cmd{}, nil); ways != 1 {
		t.Error(ways)
	}
}

// grown: a command of acts by chance, most of them right; the same one of the same seed.
func grown(seed int64) api.Cmd {
	chance := rand.New(rand.NewSource(seed))
	expressions, acts := theExpressions(), []api.Act{set(), item(), local(), send(), recv()}
	c := named()
	c.Guard = [][]api.Node{nil, yes(), expressions[chance.Intn(len(expressions))].e}[chance.Intn(3)]
	for range chance.Intn(api.MaxActs + 1) {
		a := acts[chance.Intn(len(acts))]
		if chance.Intn(9) == 0 {
			a.To = chance.Intn(6)
		}
		c.Acts = append(c.Acts, a)
	}
	return c
}

// P13.4; and what is handed in stays as it is.
func TestParts(t *testing.T) {
	right := 0
	for seed := range int64(20000) {
		c, s, p := grown(seed), theScope(), theProc()
		at, why := cmd.Check(c, p, s)
		if !reflect.DeepEqual(c, grown(seed)) || !reflect.DeepEqual(s, theScope()) || !reflect.DeepEqual(p, theProc()) {
			t.Fatal("changed", c)
		}
		if why != api.OK {
			cutAt(t, c, told{at, why})
			continue
		}
		right++
		for n := range c.Acts {
			less := c
			less.Acts = c.Acts[:n]
			check(t, told{}, less)
			less.Guard = nil
			check(t, told{}, less)
		}
	}
	if right < 1000 {
		t.Error("few are right:", right)
	}
}

// cutAt: the first act that is wrong plays no part, if it is taken away with those behind it; and without a wrong guard, what is wrong is an act.
func cutAt(t *testing.T, c api.Cmd, wrong told) {
	t.Helper()
	if wrong.at >= 2 {
		check(t, wrong, api.Cmd{Name: c.Name, Acts: c.Acts[:wrong.at-1]})
		c.Acts = c.Acts[:wrong.at-2]
	} else {
		c.Guard, c.Acts = nil, nil
	}
	check(t, told{}, c)
}
