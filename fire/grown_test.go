package fire_test

import (
	"math/rand"
	"slices"
	"strconv"
	"testing"

	"lariat/api"
	"lariat/expr"
	"lariat/fire"
	"lariat/layout"
	"lariat/model"
	"lariat/proc"
	"lariat/state"
)

// grower makes models by chance.
type grower struct {
	*rand.Rand
	m     api.Model
	scope api.Scope
}

// grown: a model that may be.
func grown(chance *rand.Rand) api.Model {
	for {
		g := &grower{Rand: chance}
		g.grow()
		if model.Check(g.m) == (api.Fault{}) {
			return g.m
		}
	}
}

func (g *grower) grow() {
	for i := range g.Intn(api.MaxScalars + 1) {
		g.m.Scalars = append(g.m.Scalars, api.Scalar{Name: "S" + strconv.Itoa(i), Size: 1 + g.Intn(3)})
	}
	for i := range g.Intn(4) {
		v := g.variable("v" + strconv.Itoa(i))
		v.Over = g.scalar()
		g.m.Vars = append(g.m.Vars, v)
	}
	for i := range g.Intn(4) {
		v := g.variable("c" + strconv.Itoa(i))
		g.m.Chans = append(g.m.Chans, api.Chan{Name: v.Name, Scalar: v.Scalar, Cap: 1 + g.Intn(3), Lo: v.Lo, Hi: v.Hi, Lossy: g.Intn(2) == 0})
	}
	for i := range 1 + g.Intn(3) {
		p := api.Proc{Name: "P" + strconv.Itoa(i), Over: g.scalar(), Locs: 1 + g.Intn(3)}
		for n := range g.Intn(4) {
			p.Vars = append(p.Vars, g.variable("l"+strconv.Itoa(n)))
		}
		g.m.Procs = append(g.m.Procs, p)
	}
	for i, p := range g.m.Procs {
		g.scope = proc.Scope(g.m, i)
		for n := range g.Intn(5) {
			g.m.Procs[i].Cmds = append(g.m.Procs[i].Cmds, g.command("go"+strconv.Itoa(n), p.Locs))
		}
	}
}

func (g *grower) scalar() int {
	return g.Intn(len(g.m.Scalars) + 1)
}

func (g *grower) variable(name string) api.Var {
	v := api.Var{Name: name, Scalar: g.scalar(), Lo: g.Intn(5) - 2}
	v.Hi = v.Lo + g.Intn(5)
	if v.Init = v.Lo + g.Intn(v.Hi-v.Lo+1); v.Scalar != 0 {
		v.Init = g.Intn(g.m.Scalars[v.Scalar-1].Size + 1)
	}
	return v
}

func (g *grower) command(name string, locs int) api.Cmd {
	c := api.Cmd{Name: name, From: g.Intn(locs), To: g.Intn(locs), Fair: g.Intn(2) == 0}
	if g.Intn(3) == 0 {
		c.Guard = g.expression(1, 3)
	}
	for range g.Intn(5) {
		a, is := g.act()
		if is && (a.Kind < api.ActSend || !slices.ContainsFunc(c.Acts, func(b api.Act) bool { return b.Kind >= api.ActSend })) {
			c.Acts = append(c.Acts, a)
		}
	}
	return c
}

// kind: that of a Scalar.
func kind(scalar int) int {
	if scalar == 0 {
		return 0
	}
	return 1 + scalar
}

// one: the number of one of l for which is says so; -1, if there is none.
func one[T any](g *grower, l []T, is func(T) bool) int {
	var at []int
	for i, x := range l {
		if is(x) {
			at = append(at, i)
		}
	}
	if len(at) == 0 {
		return -1
	}
	return at[g.Intn(len(at))]
}

// act: one by chance; false, if there is nothing of its sort.
func (g *grower) act() (api.Act, bool) {
	a := api.Act{Kind: 1 + g.Intn(5), To: -1}
	var scalar int
	switch a.Kind {
	case api.ActSet, api.ActItem:
		if a.To = one(g, g.scope.Vars, func(v api.Var) bool { return v.Over != 0 == (a.Kind == api.ActItem) }); a.To < 0 {
			return a, false
		}
		scalar = g.scope.Vars[a.To].Scalar
		if a.Kind == api.ActItem {
			a.Index = g.expression(kind(g.scope.Vars[a.To].Over), 2)
		}
	case api.ActLocal:
		if a.To = one(g, g.scope.Locals, func(api.Var) bool { return true }); a.To < 0 {
			return a, false
		}
		scalar = g.scope.Locals[a.To].Scalar
	default:
		if a.To = one(g, g.scope.Chans, func(api.Chan) bool { return true }); a.To < 0 {
			return a, false
		}
		scalar = g.scope.Chans[a.To].Scalar
	}
	if a.Kind == api.ActRecv {
		a.Local = one(g, g.scope.Locals, func(v api.Var) bool { return v.Scalar == scalar })
		return a, a.Local >= 0
	}
	a.Value = g.expression(kind(scalar), 2)
	return a, true
}

// expression: one of that kind, of so many levels at most.
func (g *grower) expression(kind, levels int) []api.Node {
	for {
		if l, is := g.tried(kind, levels); is {
			return l
		}
	}
}

// tried: an expression of that kind; false, if there is nothing of the sort that chance would have.
func (g *grower) tried(kind, levels int) ([]api.Node, bool) {
	of := func(op int, parts ...int) ([]api.Node, bool) {
		var l []api.Node
		for _, part := range parts {
			l = append(l, g.expression(part, levels-1)...)
		}
		return append(l, api.Node{Op: op}), levels > 0
	}
	if kind == 1 {
		if levels <= 0 {
			return e(api.XNum, g.Intn(2), api.XNum, g.Intn(2), api.XEq, 0), true
		}
		switch op := api.XNot + g.Intn(api.XOr-api.XNot+1); op {
		case api.XNot:
			return of(op, 1)
		case api.XEq, api.XNe:
			part := []int{0, 0, 1, 2, 3}[g.Intn(3+len(g.m.Scalars))]
			return of(op, part, part)
		case api.XLt, api.XLe:
			return of(op, 0, 0)
		case api.XAnd, api.XOr:
			return of(op, 1, 1)
		}
		return nil, false
	}
	switch op := g.Intn(2 * api.XMul); op {
	case api.XNum:
		return e(op, g.Intn(7)-3), kind == 0
	case api.XSelf:
		return e(op, 0), kind != 0 && g.scope.Self == kind-1
	case api.XNone:
		return e(op, kind-2), kind != 0 && g.Intn(3) == 0
	case api.XNeg:
		if kind == 0 && levels > 0 {
			return of(op, 0)
		}
	case api.XAdd, api.XSub, api.XMul:
		if kind == 0 && levels > 0 {
			return of(op, 0, 0)
		}
	case api.XLen:
		at := one(g, g.scope.Chans, func(api.Chan) bool { return true })
		return e(op, at), kind == 0 && at >= 0
	case api.XAt:
		at := g.Intn(len(g.m.Procs))
		return e(op, 16*at+g.Intn(g.m.Procs[at].Locs)), kind == 0
	default:
		return g.variableOf(kind, levels)
	}
	return nil, false
}

// variableOf: a variable, a local or an item of that kind.
func (g *grower) variableOf(kindOf, levels int) ([]api.Node, bool) {
	is := func(v api.Var) bool { return kind(v.Scalar) == kindOf }
	if g.Intn(2) == 0 {
		at := one(g, g.scope.Locals, is)
		return e(api.XLocal, at), at >= 0
	}
	at := one(g, g.scope.Vars, is)
	if at < 0 || g.scope.Vars[at].Over == 0 {
		return e(api.XVar, at), at >= 0
	}
	if levels <= 0 {
		return nil, false
	}
	return append(g.expression(kind(g.scope.Vars[at].Over), levels-1), api.Node{Op: api.XItem, N: at}), true
}

// rightState: one by chance.
func rightState(m api.Model, chance *rand.Rand) []int {
	l := layout.Of(m)
	s := make([]int, l.Cells)
	for i := range s {
		s[i] = l.Lo[i] + chance.Intn(l.Hi[i]-l.Lo[i]+1)
	}
	for i, c := range m.Chans {
		own := s[l.Chans[i]:][:1+c.Cap]
		lo, hi := bounds(m, c)
		for at := range c.Cap {
			own[1+at] = lo + chance.Intn(hi-lo+1)
		}
		clear(own[1+own[0]:])
	}
	return s
}

// bounds: those of the values of c.
func bounds(m api.Model, c api.Chan) (int, int) {
	if c.Scalar == 0 {
		return c.Lo, c.Hi
	}
	return 0, m.Scalars[c.Scalar-1].Size
}

// reason: why a ref is off; each is to come by chance.
type reason string

// theDone: what ref leads to, by the chapter's words, each expression asked in the Env that state tells of the state so far.
func theDone(m api.Model, s []int, ref, way int) ([]int, reason) {
	l := layout.Of(m)
	r := proc.Refs(m)[ref]
	c := m.Procs[proc.Insts(m)[r.Inst].Proc].Cmds[r.Cmd]
	own := l.Insts[r.Inst]
	if s[own] != c.From {
		return nil, "elsewhere"
	}
	if c.Guard != nil {
		if x, why := expr.Eval(c.Guard, state.Env(m, s, r.Inst)); why != api.OK {
			return nil, "a guard that can't be had"
		} else if x == 0 {
			return nil, "a guard that is not true"
		}
	}
	now := slices.Clone(s)
	for _, a := range c.Acts {
		if why := theAct(m, now, r.Inst, a); why != "" {
			return nil, why
		}
	}
	now[own] = c.To
	if way == 1 {
		for _, a := range c.Acts {
			if a.Kind == api.ActSend {
				for at := range 1 + m.Chans[a.To].Cap {
					now[l.Chans[a.To]+at] = s[l.Chans[a.To]+at]
				}
			}
		}
	}
	return now, ""
}

// theAct does a to now; or why it can't be done.
func theAct(m api.Model, now []int, inst int, a api.Act) reason {
	l := layout.Of(m)
	var values [2]int
	for i, value := range [][]api.Node{a.Index, a.Value} {
		if len(value) == 0 {
			continue
		}
		x, why := expr.Eval(value, state.Env(m, now, inst))
		if why != api.OK {
			return "a value that can't be had"
		}
		values[i] = x
	}
	cell, x := 0, values[1]
	switch a.Kind {
	case api.ActSet:
		cell = l.Vars[a.To]
	case api.ActItem:
		if values[0] == 0 {
			return "an index that is none"
		}
		cell = l.Vars[a.To] + values[0] - 1
	case api.ActLocal:
		cell = l.Insts[inst] + 1 + a.To
	case api.ActSend:
		first := l.Chans[a.To]
		if lo, hi := bounds(m, m.Chans[a.To]); x < lo || x > hi {
			return "no value of a channel"
		}
		if now[first] == m.Chans[a.To].Cap {
			return "no room"
		}
		now[first]++
		cell = first + now[first]
	case api.ActRecv:
		first := l.Chans[a.To]
		if now[first] == 0 {
			return "nothing to receive"
		}
		x = now[first+1]
		last := first + m.Chans[a.To].Cap
		for at := first + 1; at < last; at++ {
			now[at] = now[at+1]
		}
		now[last] = 0
		now[first]--
		cell = l.Insts[inst] + 1 + a.Local
	}
	if x < l.Lo[cell] || x > l.Hi[cell] {
		return "without bounds"
	}
	now[cell] = x
	return ""
}

// theWays: in how many ways ref may be done.
func theWays(m api.Model, ref int) int {
	r := proc.Refs(m)[ref]
	for _, a := range m.Procs[proc.Insts(m)[r.Inst].Proc].Cmds[r.Cmd].Acts {
		if a.Kind == api.ActSend && m.Chans[a.To].Lossy {
			return 2
		}
	}
	return 1
}

// P20.1 to P20.7: of grown models some states that are reached, and some that may not be.
func TestGrown(t *testing.T) {
	chance := rand.New(rand.NewSource(20))
	seen := map[reason]int{}
	for range 900 {
		m := grown(chance)
		now := state.First(m)
		for range 6 {
			if chance.Intn(3) == 0 {
				now = rightState(m, chance)
			}
			moves := held(t, m, now, seen)
			followed(t, m, now, chance)
			now = moves[chance.Intn(len(moves))].To
		}
	}
	for _, why := range []reason{"", "lost", "nothing", "elsewhere", "a guard that can't be had", "a guard that is not true", "a value that can't be had", "an index that is none", "no value of a channel", "no room", "nothing to receive", "without bounds"} {
		if seen[why] < 100 {
			t.Error("too few of", why, seen[why])
		}
	}
}

// held: all that is told of one state, held against what is to be told.
func held(t *testing.T, m api.Model, now []int, seen map[reason]int) []api.Move {
	t.Helper()
	if !state.Right(m, now) {
		t.Fatal("not right:", now)
	}
	var want []api.Move
	for ref := range proc.Refs(m) {
		_, off := theDone(m, now, ref, 0)
		seen[off]++
		if fire.On(m, now, ref) != (off == "") {
			t.Fatal("On of", ref, now, off, m)
		}
		for way := range theWays(m, ref) {
			to, off := theDone(m, now, ref, way)
			wrong := api.OK
			if off != "" {
				wrong = api.ErrOff
			} else {
				want = append(want, api.Move{Cmd: ref, Way: way, To: to})
				seen["lost"] += way
			}
			if l, why := fire.Do(m, now, ref, way); why != wrong || !slices.Equal(l, to) {
				t.Fatal("Do of", ref, way, now, "=", l, why, "not", to, off, m)
			}
		}
		doing(t, api.ErrArg, m, now, ref, theWays(m, ref))
	}
	if want == nil {
		seen["nothing"]++
		want = []api.Move{{Cmd: -1, To: now}}
	}
	moves := fire.Moves(m, now)
	if !slices.EqualFunc(moves, want, sameMove) {
		t.Fatal("Moves of", now, "=", moves, "not", want, m)
	}
	for _, v := range moves {
		if !state.Right(m, v.To) {
			t.Fatal("not right:", v.To, "behind", now)
		}
	}
	return moves
}

// followed: some steps from there on, of which the last may be none.
func followed(t *testing.T, m api.Model, now []int, chance *rand.Rand) {
	t.Helper()
	var steps []api.Step
	var want [][]int
	from := now
	for range chance.Intn(5) {
		moves := fire.Moves(m, from)
		v := moves[chance.Intn(len(moves))]
		steps, want, from = append(steps, api.Step{Cmd: v.Cmd, Way: v.Way}), append(want, v.To), v.To
	}
	if l, why := fire.Follow(m, now, steps); why != api.OK || !slices.EqualFunc(l, want, slices.Equal) {
		t.Fatal("Follow of", steps, now, "=", l, why, "not", want, m)
	}
	last := api.Step{Cmd: chance.Intn(len(proc.Refs(m))+2) - 1, Way: chance.Intn(3)}
	is := slices.ContainsFunc(fire.Moves(m, from), func(v api.Move) bool { return v.Cmd == last.Cmd && v.Way == last.Way })
	if l, why := fire.Follow(m, now, append(steps, last)); why == api.OK != is || is != (len(l) > 0) {
		t.Fatal("Follow of", steps, last, now, "=", l, why)
	}
}
