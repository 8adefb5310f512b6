package space_test

import (
	"math/rand"
	"slices"
	"strconv"
	"testing"

	"lariat/api"
	"lariat/fire"
	"lariat/label"
	"lariat/model"
	"lariat/space"
	"lariat/state"
)

// grown: a model that may be, of commands and propositions by chance: variables x (0 to 2), o (an element of S), y (0 to 1,
// of each of S); channels c (0 to 1) and d (an element); a process P over S with a local a (0 to 2), b (an element); Q alone,
// with the same.
func grown(chance *rand.Rand) api.Model {
	locals := []api.Var{{Name: "a", Hi: 2}, {Name: "b", Scalar: 1}}
	m := api.Model{
		Scalars: []api.Scalar{{Name: "S", Size: 1 + chance.Intn(2)}},
		Vars:    []api.Var{{Name: "x", Hi: 2, Init: chance.Intn(3)}, {Name: "o", Scalar: 1}, {Name: "y", Over: 1, Hi: 1}},
		Chans:   []api.Chan{{Name: "c", Cap: 1 + chance.Intn(2), Hi: 1, Lossy: chance.Intn(2) == 0}, {Name: "d", Cap: 1, Scalar: 1, Lossy: chance.Intn(2) == 0}},
		Procs:   []api.Proc{{Name: "P", Over: 1, Locs: 1 + chance.Intn(3), Vars: locals}, {Name: "Q", Locs: 1 + chance.Intn(3), Vars: locals}},
	}
	for i, p := range m.Procs {
		for n := range 2 + chance.Intn(4) {
			c := api.Cmd{Name: "go" + strconv.Itoa(n), From: chance.Intn(p.Locs), To: chance.Intn(p.Locs), Acts: acts(chance, i == 0)}
			if chance.Intn(3) == 0 {
				c.Guard = truth(chance)
			}
			m.Procs[i].Cmds = append(m.Procs[i].Cmds, c)
		}
	}
	for i := range chance.Intn(4) {
		m.Props = append(m.Props, api.Prop{Name: "p" + strconv.Itoa(i), Expr: truth(chance)})
	}
	return m
}

// truth: one that may stand anywhere.
func truth(chance *rand.Rand) []api.Node {
	l := [][]api.Node{
		is(e(api.XVar, 0), chance.Intn(3)),
		e(api.XVar, 1, api.XNone, 0, api.XNe, 0),
		is(e(api.XVar, 1, api.XItem, 2), 0),
		is(e(api.XLen, 0), chance.Intn(3)),
		is(e(api.XLen, 1), 0),
		is(e(api.XAt, 16*chance.Intn(2)), 1),
	}
	return l[chance.Intn(len(l))]
}

// acts: some by chance, of which at most one sends or receives.
func acts(chance *rand.Rand, own bool) []api.Act {
	elem := e(api.XLocal, 1)
	if own {
		elem = e(api.XSelf, 0)
	}
	l := []api.Act{
		add(0),
		{Kind: api.ActSet, Value: e(api.XNum, 2, api.XVar, 0, api.XSub, 0)},
		{Kind: api.ActSet, Value: e(api.XLocal, 0)},
		{Kind: api.ActSet, To: 1, Value: elem},
		{Kind: api.ActItem, To: 2, Index: elem, Value: e(api.XNum, chance.Intn(2))},
		{Kind: api.ActLocal, Value: e(api.XNum, chance.Intn(3))},
		{Kind: api.ActLocal, To: 1, Value: e(api.XVar, 1)},
	}
	comms := []api.Act{
		{Kind: api.ActSend, Value: e(api.XNum, chance.Intn(2))},
		{Kind: api.ActSend, To: 1, Value: elem},
		{Kind: api.ActRecv},
		{Kind: api.ActRecv, To: 1, Local: 1},
	}
	some := []api.Act{comms[chance.Intn(len(comms))]}[:chance.Intn(2)]
	for range chance.Intn(3) {
		some = append(some, l[chance.Intn(len(l))])
	}
	return some
}

// theSpace: that of m, by the chapter's words; false, if it has more than most states.
func theSpace(m api.Model, most int) (api.Space, bool) {
	x := api.Space{States: [][]int{state.First(m)}, G: api.Graph{Init: []int{0}}}
	for at := 0; at < len(x.States); at++ {
		x.G.Edges = append(x.G.Edges, nil)
		for _, v := range fire.Moves(m, x.States[at]) {
			to := slices.IndexFunc(x.States, func(s []int) bool { return slices.Equal(s, v.To) })
			if to < 0 {
				to = len(x.States)
				x.States = append(x.States, v.To)
			}
			if len(x.States) > most {
				return x, false
			}
			act := 2*v.Cmd + v.Way
			if v.Cmd == -1 {
				act = -1
			}
			x.G.Edges[at] = append(x.G.Edges[at], api.Edge{To: to, Act: act})
		}
		set, _ := label.Of(m, x.States[at])
		x.G.Labels = append(x.G.Labels, set)
	}
	return x, true
}

// P22.1, P22.2, P22.4: grown models, their spaces held against the chapter's words.
func TestGrown(t *testing.T) {
	chance := rand.New(rand.NewSource(22))
	great, many, stuck := 0, 0, 0
	for range 600 {
		m := grown(chance)
		if f := model.Check(m); f != (api.Fault{}) {
			t.Fatal(f, m)
		}
		want, is := theSpace(m, 80)
		if !is {
			refused(t, api.ErrMany, m, 80)
			many++
			continue
		}
		n := len(want.States)
		x, why := space.All(m, n)
		if why != api.OK || !same(x, want) {
			t.Fatal(x, why, want, m)
		}
		refused(t, api.ErrMany, m, n-1)
		each(t, m, x)
		if n >= 20 {
			great++
		}
		if slices.ContainsFunc(x.G.Edges, func(row []api.Edge) bool { return row[0].Act == -1 }) {
			stuck++
		}
	}
	if great < 30 || many < 20 || stuck < 30 {
		t.Error("too few:", great, many, stuck)
	}
}

// each: P22.4 of each state of x.
func each(t *testing.T, m api.Model, x api.Space) {
	t.Helper()
	reached := make([]bool, len(x.States))
	reached[0] = slices.Equal(x.States[0], state.First(m))
	for at, s := range x.States {
		find(t, at, x, s)
		if !state.Right(m, s) || !reached[at] {
			t.Fatal(at, s, "not right, or not reached by those ahead", m)
		}
		moves := fire.Moves(m, s)
		for i, edge := range x.G.Edges[at] {
			reached[edge.To] = true
			if !slices.Equal(moves[i].To, x.States[edge.To]) {
				t.Fatal(at, edge, moves[i], m)
			}
		}
		if len(moves) != len(x.G.Edges[at]) {
			t.Fatal(at, moves, x.G.Edges[at])
		}
	}
}

// P22.3, P22.5: walks by chance that come to a state again are runs of the model, through just these states.
func TestRuns(t *testing.T) {
	chance := rand.New(rand.NewSource(23))
	for range 300 {
		m := grown(chance)
		x, why := space.All(m, 300)
		if why != api.OK {
			continue
		}
		for range 5 {
			l := walked(x.G, chance)
			trace, why := space.Lasso(x, l)
			if why != api.OK {
				t.Fatal(l, why, m)
			}
			if len(trace.Stem) != len(l.Stem) || len(trace.Loop) != len(l.Loop) {
				t.Fatal(l, trace)
			}
			run(t, m, x, l, trace)
		}
	}
}

// walked: a lasso of g, by chance.
func walked(g api.Graph, chance *rand.Rand) api.Lasso {
	way := []int{0}
	for {
		row := g.Edges[way[len(way)-1]]
		next := row[chance.Intn(len(row))].To
		if at := slices.Index(way, next); at >= 0 && chance.Intn(2) == 0 {
			return api.Lasso{Stem: way[:at], Loop: way[at:]}
		}
		way = append(way, next)
	}
}

// run: the steps lead from state to state of l, and back to where the loop begins.
func run(t *testing.T, m api.Model, x api.Space, l api.Lasso, trace api.Trace) {
	t.Helper()
	nodes := slices.Concat(l.Stem, l.Loop, l.Loop[:1])
	states, why := fire.Follow(m, state.First(m), slices.Concat(trace.Stem, trace.Loop))
	if why != api.OK {
		t.Fatal(why, trace, m)
	}
	for i, s := range states {
		if !slices.Equal(s, x.States[nodes[i+1]]) {
			t.Fatal(i, s, l, trace, m)
		}
	}
}
