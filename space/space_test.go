package space_test

import (
	"math"
	"reflect"
	"slices"
	"strconv"
	"testing"

	"lariat/api"
	"lariat/graph"
	"lariat/model"
	"lariat/space"
)

// e: an expression of nodes, each an Op and its N.
func e(numbers ...int) []api.Node {
	var l []api.Node
	for at := 0; at < len(numbers); at += 2 {
		l = append(l, api.Node{Op: numbers[at], N: numbers[at+1]})
	}
	return l
}

// is: e says that number.
func is(e []api.Node, x int) []api.Node {
	return append(slices.Clone(e), api.Node{Op: api.XNum, N: x}, api.Node{Op: api.XEq})
}

// add: variable n is one more.
func add(n int) api.Act {
	return api.Act{Kind: api.ActSet, To: n, Value: e(api.XVar, n, api.XNum, 1, api.XAdd, 0)}
}

// counters: a model of one process that adds one to any of its variables, which have so many values each.
func counters(values ...int) api.Model {
	m := api.Model{Procs: []api.Proc{{Name: "P", Locs: 1}}}
	for i, n := range values {
		m.Vars = append(m.Vars, api.Var{Name: "x" + strconv.Itoa(i), Hi: n - 1})
		m.Procs[0].Cmds = append(m.Procs[0].Cmds, api.Cmd{Name: "go" + strconv.Itoa(i), Acts: []api.Act{add(i)}})
	}
	return m
}

// lossy: a process at 0 that sends 1 into a lossy channel of two values at most, and goes to 1 and back without; one that
// receives. Cells: the channel's 0 to 2, the sender 3, the receiver 4, its local 5. Refs: put 0, back 1, get 2.
func lossy() api.Model {
	return api.Model{
		Chans: []api.Chan{{Name: "c", Cap: 2, Hi: 1, Lossy: true}},
		Procs: []api.Proc{
			{Name: "S", Locs: 2, Cmds: []api.Cmd{
				{Name: "put", To: 1, Acts: []api.Act{{Kind: api.ActSend, Value: e(api.XNum, 1)}}},
				{Name: "back", From: 1},
			}},
			{Name: "R", Locs: 1, Vars: []api.Var{{Name: "l", Hi: 1}}, Cmds: []api.Cmd{{Name: "get", Acts: []api.Act{{Kind: api.ActRecv}}}}},
		},
		Props: []api.Prop{{Name: "full", Expr: is(e(api.XLen, 0), 2)}, {Name: "away", Expr: is(e(api.XAt, 1), 1)}},
	}
}

// spoilt: models that may not be.
func spoilt() []api.Model {
	l := []api.Model{{Props: []api.Prop{{}}}, {Procs: make([]api.Proc, 70000)}, {Scalars: make([]api.Scalar, 3)}}
	for _, do := range []func(m *api.Model){
		func(m *api.Model) { m.Chans[0].Cap = math.MaxInt },
		func(m *api.Model) { m.Chans[0].Scalar = -1 },
		func(m *api.Model) { m.Procs[0].Locs = 0 },
		func(m *api.Model) { m.Procs[0].Cmds[0].To = 2 },
		func(m *api.Model) { m.Procs[1].Over = math.MinInt },
		func(m *api.Model) { m.Procs[1].Vars = nil },
		func(m *api.Model) { m.Props[0].Expr = nil },
		func(m *api.Model) { m.Props[1].Name = "full" },
	} {
		m := lossy()
		do(&m)
		l = append(l, m)
	}
	return l
}

func edges(numbers ...int) []api.Edge {
	var l []api.Edge
	for at := 0; at < len(numbers); at += 2 {
		l = append(l, api.Edge{To: numbers[at], Act: numbers[at+1]})
	}
	return l
}

// same: a list of nothing may be nil or not.
func same(a, b api.Space) bool {
	return slices.EqualFunc(a.States, b.States, slices.Equal) && graph.Same(a.G, b.G)
}

// all: the space of m is x, and has just so many states.
func all(t *testing.T, m api.Model, x api.Space) {
	t.Helper()
	n := len(x.States)
	for _, most := range []int{n, n + 1, api.MaxNodes, api.MaxNodes + 1, math.MaxInt} {
		if got, why := space.All(m, most); why != api.OK || !same(got, x) {
			t.Fatalf("All of %d = %v, %v, not %v", most, got, why, x)
		}
	}
	for _, most := range []int{n - 1, 0, -1, math.MinInt} {
		refused(t, api.ErrMany, m, most)
	}
	for i, s := range x.States {
		find(t, i, x, s)
	}
}

func refused(t *testing.T, want api.Errno, m api.Model, most int) {
	t.Helper()
	if x, why := space.All(m, most); why != want || !reflect.DeepEqual(x, api.Space{}) {
		t.Errorf("All of %d = %v, %v, not %v", most, x, why, want)
	}
}

func find(t *testing.T, want int, x api.Space, s []int) {
	t.Helper()
	if n := space.Find(x, s); n != want {
		t.Errorf("Find of %v = %d, not %d", s, n, want)
	}
}

func lasso(t *testing.T, x api.Space, stem, loop []int, want api.Trace) {
	t.Helper()
	if l, why := space.Lasso(x, api.Lasso{Stem: stem, Loop: loop}); why != api.OK || !slices.Equal(l.Stem, want.Stem) || !slices.Equal(l.Loop, want.Loop) {
		t.Errorf("Lasso of %v, %v = %v, %v, not %v", stem, loop, l, why, want)
	}
}

func noLasso(t *testing.T, want api.Errno, x api.Space, stem, loop []int) {
	t.Helper()
	if l, why := space.Lasso(x, api.Lasso{Stem: stem, Loop: loop}); why != want || !reflect.DeepEqual(l, api.Trace{}) {
		t.Errorf("Lasso of %v, %v = %v, %v, not %v", stem, loop, l, why, want)
	}
}

// The example, and models with less than that.
func TestExample(t *testing.T) {
	still := api.Graph{Init: []int{0}, Edges: [][]api.Edge{edges(0, -1)}, Labels: []uint64{0}}
	all(t, api.Model{Procs: []api.Proc{{Name: "P", Locs: 1}}}, api.Space{States: [][]int{{0}}, G: still})
	all(t, api.Model{Vars: []api.Var{{Name: "x", Lo: -5, Hi: 5, Init: 3}}}, api.Space{States: [][]int{{3}}, G: still})
	all(t, api.Model{}, api.Space{States: [][]int{nil}, G: still})
	still.Labels = []uint64{1}
	all(t, api.Model{Props: []api.Prop{{Name: "p", Expr: is(e(api.XNum, 0), 0)}}}, api.Space{States: [][]int{{}}, G: still})
}

// P22.1: states breadth first, each once; edges in the order of moves; labels.
func TestAll(t *testing.T) {
	m := counters(3, 2)
	m.Props = []api.Prop{{Name: "p", Expr: is(e(api.XVar, 0), 1)}, {Name: "q", Expr: is(e(api.XVar, 1), 1)}}
	all(t, m, api.Space{
		States: [][]int{{0, 0, 0}, {1, 0, 0}, {0, 1, 0}, {2, 0, 0}, {1, 1, 0}, {2, 1, 0}},
		G: api.Graph{
			Init:   []int{0},
			Edges:  [][]api.Edge{edges(1, 0, 2, 2), edges(3, 0, 4, 2), edges(4, 0), edges(5, 2), edges(5, 0), edges(5, -1)},
			Labels: []uint64{0, 1, 2, 0, 3, 2},
		},
	})
	// Two commands that lead to the same state, and one that leads to where it went from.
	m = api.Model{Procs: []api.Proc{{Name: "P", Locs: 3, Cmds: []api.Cmd{{Name: "a", To: 2}, {Name: "b"}, {Name: "c", To: 2}, {Name: "d", To: 1}, {Name: "f", From: 1}}}}}
	all(t, m, api.Space{
		States: [][]int{{0}, {2}, {1}},
		G:      api.Graph{Init: []int{0}, Edges: [][]api.Edge{edges(1, 0, 0, 2, 1, 4, 2, 6), edges(1, -1), edges(0, 8)}, Labels: make([]uint64, 3)},
	})
	all(t, lossy(), lossySpace())
}

// lossySpace: that of lossy.
func lossySpace() api.Space {
	return api.Space{
		States: [][]int{
			{0, 0, 0, 0, 0, 0}, {1, 1, 0, 1, 0, 0}, {0, 0, 0, 1, 0, 0}, {1, 1, 0, 0, 0, 0},
			{0, 0, 0, 1, 0, 1}, {2, 1, 1, 1, 0, 0}, {0, 0, 0, 0, 0, 1}, {2, 1, 1, 0, 0, 0},
			{1, 1, 0, 1, 0, 1}, {1, 1, 0, 0, 0, 1}, {2, 1, 1, 1, 0, 1}, {2, 1, 1, 0, 0, 1},
		},
		G: api.Graph{
			Init: []int{0},
			Edges: [][]api.Edge{
				edges(1, 0, 2, 1), edges(3, 2, 4, 4), edges(0, 2), edges(5, 0, 1, 1, 6, 4),
				edges(6, 2), edges(7, 2, 8, 4), edges(8, 0, 4, 1), edges(9, 4),
				edges(9, 2, 4, 4), edges(10, 0, 8, 1, 6, 4), edges(11, 2, 8, 4), edges(9, 4),
			},
			Labels: []uint64{0, 2, 2, 0, 2, 3, 0, 1, 2, 0, 3, 1},
		},
	}
}

// P22.1: ErrArg, then ErrMany.
func TestRefused(t *testing.T) {
	for _, m := range spoilt() {
		if model.Check(m) == (api.Fault{}) {
			t.Error("it may be:", m)
		}
		for _, most := range []int{-1, 0, 1, 1000, math.MaxInt, math.MinInt} {
			refused(t, api.ErrArg, m, most)
		}
	}
}

// P22.1: no more than MaxNodes, whatever most is; and that many.
func TestMaxNodes(t *testing.T) {
	x, why := space.All(counters(256, 256), math.MaxInt)
	if why != api.OK || len(x.States) != api.MaxNodes || len(x.G.Edges) != api.MaxNodes || len(x.G.Labels) != api.MaxNodes {
		t.Fatal(len(x.States), why)
	}
	find(t, api.MaxNodes-1, x, []int{255, 255, 0})
	if l := x.G.Edges[api.MaxNodes-1]; !slices.Equal(l, edges(api.MaxNodes-1, -1)) {
		t.Error(l)
	}
	refused(t, api.ErrMany, counters(256, 256), api.MaxNodes-1)
	// One more than that: but the last one of the variables there is a location more.
	m := counters(256, 256)
	m.Procs[0].Locs = 2
	m.Procs[0].Cmds = append(m.Procs[0].Cmds, api.Cmd{Name: "on", To: 1, Guard: e(api.XNum, 510, api.XVar, 0, api.XVar, 1, api.XAdd, 0, api.XLe, 0)})
	refused(t, api.ErrMany, m, api.MaxNodes)
	refused(t, api.ErrMany, m, api.MaxNodes+1)
	refused(t, api.ErrMany, m, math.MaxInt)
}

// P22.2
func TestFind(t *testing.T) {
	x := lossySpace()
	for i, s := range x.States {
		find(t, i, x, slices.Clone(s))
		find(t, -1, x, s[1:])
		find(t, -1, x, append(slices.Clone(s), 0))
	}
	for _, s := range [][]int{nil, {}, {0}, {2, 1, 1, 0, 0, 2}, {math.MinInt, 0, 0, 0, 0, 0}} {
		find(t, -1, x, s)
		find(t, -1, api.Space{}, s)
	}
	raw := api.Space{States: [][]int{{7}, {1, 2}, {}, {1, 2}, nil, {7}, {math.MaxInt}}}
	find(t, 0, raw, []int{7})
	find(t, 1, raw, []int{1, 2})
	find(t, 2, raw, nil)
	find(t, 2, raw, []int{})
	find(t, 6, raw, []int{math.MaxInt})
	find(t, -1, raw, []int{2, 1})
	find(t, -1, raw, []int{1})
	find(t, -1, raw, []int{1, 2, 0})
}

// P22.3: the first edge that leads on, from the first node on, and back to where the loop begins.
func TestLasso(t *testing.T) {
	x := lossySpace()
	lasso(t, x, nil, []int{0, 2}, api.Trace{Loop: []api.Step{{Cmd: 0, Way: 1}, {Cmd: 1}}})
	lasso(t, x, []int{0}, []int{2, 0}, api.Trace{Stem: []api.Step{{Cmd: 0, Way: 1}}, Loop: []api.Step{{Cmd: 1}, {Cmd: 0, Way: 1}}})
	lasso(t, x, []int{0, 1, 4}, []int{6, 4}, api.Trace{Stem: []api.Step{{Cmd: 0}, {Cmd: 2}, {Cmd: 1}}, Loop: []api.Step{{Cmd: 0, Way: 1}, {Cmd: 1}}})
	lasso(t, x, []int{0, 2, 0}, []int{1, 3}, api.Trace{Stem: []api.Step{{Cmd: 0, Way: 1}, {Cmd: 1}, {Cmd: 0}}, Loop: []api.Step{{Cmd: 1}, {Cmd: 0, Way: 1}}})
	raw := api.Space{G: api.Graph{Init: []int{2, 0}, Edges: [][]api.Edge{
		edges(1, -7, 1, 4), edges(0, 3, 2, 2*math.MaxInt32+1, 2, 0), edges(9, 1, 2, -1, 0, 8, 0, -1, -3, 5, 2, 2), edges(3, math.MaxInt),
	}}}
	lasso(t, raw, nil, []int{2}, api.Trace{Loop: []api.Step{{Cmd: -1}}})
	lasso(t, raw, nil, []int{2, 2}, api.Trace{Loop: []api.Step{{Cmd: -1}, {Cmd: -1}}})
	lasso(t, raw, []int{2}, []int{0, 1}, api.Trace{Stem: []api.Step{{Cmd: 4}}, Loop: []api.Step{{Cmd: -1}, {Cmd: 1, Way: 1}}})
	lasso(t, raw, []int{2, 0}, []int{1, 2, 0}, api.Trace{Stem: []api.Step{{Cmd: 4}, {Cmd: -1}}, Loop: []api.Step{{Cmd: math.MaxInt32, Way: 1}, {Cmd: 4}, {Cmd: -1}}})
	raw.G.Init = []int{3}
	lasso(t, raw, nil, []int{3}, api.Trace{Loop: []api.Step{{Cmd: math.MaxInt / 2, Way: 1}}})
	raw.G.Edges[3][0].Act = math.MinInt
	lasso(t, raw, nil, []int{3}, api.Trace{Loop: []api.Step{{Cmd: -1}}})
}

// P22.3: what is refused, and why.
func TestNoLasso(t *testing.T) {
	x := lossySpace()
	for _, stem := range [][]int{nil, {}, {0}, {5}, {0, 9}, {-1}} {
		noLasso(t, api.ErrNone, x, stem, nil)
		noLasso(t, api.ErrNone, x, stem, []int{})
		noLasso(t, api.ErrNone, api.Space{}, stem, nil)
	}
	// The first node.
	noLasso(t, api.ErrStem, x, nil, []int{1, 3})
	noLasso(t, api.ErrStem, x, []int{1}, []int{3, 1})
	noLasso(t, api.ErrStem, x, []int{2}, []int{0, 2})
	noLasso(t, api.ErrStem, api.Space{}, nil, []int{0})
	noLasso(t, api.ErrStem, api.Space{G: api.Graph{Edges: x.G.Edges}}, nil, []int{0, 2})
	noLasso(t, api.ErrStem, api.Space{G: api.Graph{Init: []int{1, 0}, Edges: x.G.Edges}}, nil, []int{0, 2})
	for _, far := range []int{-1, 12, math.MaxInt, math.MinInt} {
		noLasso(t, api.ErrStem, x, nil, []int{far})
		noLasso(t, api.ErrStem, x, []int{far}, []int{0, 2})
		noLasso(t, api.ErrStem, x, []int{0, far}, []int{0, 2})
		noLasso(t, api.ErrStem, x, []int{0}, []int{far})
		noLasso(t, api.ErrLoop, x, nil, []int{0, far})
		noLasso(t, api.ErrLoop, x, []int{0}, []int{2, 0, far, 2})
		// It is a first node, or an edge leads there, and yet it has no edges.
		raw := api.Space{G: api.Graph{Init: []int{0}, Edges: [][]api.Edge{edges(far, 0)}}}
		noLasso(t, api.ErrStem, raw, []int{0, far}, []int{0})
		noLasso(t, api.ErrLoop, raw, []int{0}, []int{far})
		noLasso(t, api.ErrLoop, raw, nil, []int{0, far})
		raw.G.Init[0] = far
		noLasso(t, api.ErrStem, raw, []int{far}, []int{0})
		noLasso(t, api.ErrLoop, raw, nil, []int{far})
	}
	// An edge that lacks: within the stem, to the loop, within the loop, back.
	noLasso(t, api.ErrStem, x, []int{0, 3}, []int{1, 3})
	noLasso(t, api.ErrStem, x, []int{0, 1}, []int{2, 0})
	noLasso(t, api.ErrLoop, x, []int{0}, []int{1, 2, 0})
	noLasso(t, api.ErrLoop, x, []int{0}, []int{1, 3, 5})
	noLasso(t, api.ErrLoop, x, nil, []int{0})
	noLasso(t, api.ErrLoop, x, nil, []int{0, 1, 3})
	// Both: what lacks first is told.
	noLasso(t, api.ErrStem, x, []int{0, 3}, []int{1, 2})
	noLasso(t, api.ErrStem, x, []int{2}, []int{1, 2})
	// A space whose edges are fewer than its states.
	noLasso(t, api.ErrLoop, api.Space{States: x.States, G: api.Graph{Init: []int{0}}}, nil, []int{0})
}

// What is handed in stays as it is, what is answered is new, and no two lists of it share any.
func TestNew(t *testing.T) {
	m := lossy()
	x, why := space.All(m, 12)
	if why != api.OK || !reflect.DeepEqual(m, lossy()) {
		t.Fatal(why, m)
	}
	for i := range x.States {
		_ = append(x.States[i], -9)
		_ = append(x.G.Edges[i], api.Edge{To: -9})
	}
	if !same(x, lossySpace()) {
		t.Error("lists share", x)
	}
	l := api.Lasso{Stem: append(make([]int, 0, 9), 0, 1, 4), Loop: append(make([]int, 0, 9), 6, 4)}
	trace, _ := space.Lasso(x, l)
	_ = append(trace.Stem, api.Step{Cmd: -9})
	_ = append(trace.Loop, api.Step{Cmd: -9})
	if want := []api.Step{{Cmd: 0, Way: 1}, {Cmd: 1}}; !slices.Equal(trace.Loop, want) {
		t.Error(trace)
	}
	if !slices.Equal(l.Stem, []int{0, 1, 4}) || !slices.Equal(l.Loop, []int{6, 4}) || l.Stem[:4][3] != 0 || l.Loop[:3][2] != 0 || !same(x, lossySpace()) {
		t.Error("changed:", l, x)
	}
	for i := range x.States {
		clear(x.States[i])
		clear(x.G.Edges[i])
	}
	clear(x.G.Labels)
	all(t, m, lossySpace())
}
