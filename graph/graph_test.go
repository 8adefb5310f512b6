package graph_test

import (
	"fmt"
	"math"
	"slices"
	"testing"

	"lariat/api"
	"lariat/graph"
)

// strange: numbers that are no node of n nodes.
func strange(n int) []int {
	return []int{-1, -2, -n - 1, n, n + 1, 2*n + 64, 1 << 40, math.MaxInt, math.MinInt, math.MinInt + 1}
}

// to: edges to these nodes, with acts that differ.
func to(nodes ...int) []api.Edge {
	var l []api.Edge
	for i, n := range nodes {
		l = append(l, api.Edge{To: n, Act: 10*n%97 + i})
	}
	return l
}

// of: a graph of these edges, with starts and labels.
func of(edges ...[]api.Edge) api.Graph {
	g := api.Graph{Init: []int{0}, Edges: edges}
	for n := range edges {
		g.Labels = append(g.Labels, uint64(1)<<(63-n%64))
	}
	return g
}

// clone: a graph of new memory.
func clone(g api.Graph) api.Graph {
	out := api.Graph{Init: slices.Clone(g.Init), Labels: slices.Clone(g.Labels)}
	for _, row := range g.Edges {
		out.Edges = append(out.Edges, slices.Clone(row))
	}
	return out
}

// like: are both the same, list by list?
func like(a, b api.Graph) bool {
	if !slices.Equal(a.Init, b.Init) || !slices.Equal(a.Labels, b.Labels) || len(a.Edges) != len(b.Edges) {
		return false
	}
	for n, row := range a.Edges {
		if !slices.Equal(row, b.Edges[n]) {
			return false
		}
	}
	return true
}

// chance: numbers that look like chance, the same each time.
type chance uint64

func (c *chance) below(n int) int {
	*c = *c*6364136223846793005 + 1442695040888963407
	return int(*c>>33) % n
}

// some: nodes by the digits of u.
func some(n, u int) ([]int, []bool) {
	l, marks := []int(nil), make([]bool, n)
	for i := range n {
		if u>>i&1 == 1 {
			l, marks[i] = append(l, i), true
		}
	}
	return l, marks
}

// small: all graphs of up to three nodes with at most one edge from each node to each one, and many of more nodes: with several edges, some of them to no node.
func small() []api.Graph {
	var l []api.Graph
	for n := range 4 {
		for u := range 1 << (n * n) {
			g := api.Graph{Edges: make([][]api.Edge, n), Labels: make([]uint64, n)}
			for i := range n * n {
				if u>>i&1 == 1 {
					g.Edges[i/n] = append(g.Edges[i/n], api.Edge{To: i % n, Act: i})
				}
			}
			l = append(l, g)
		}
	}
	c := chance(7)
	for i := range 150 {
		n := 2 + i%4
		g := api.Graph{Edges: make([][]api.Edge, n), Labels: make([]uint64, n)}
		for k := range n + c.below(2*n) {
			a, b := c.below(n), c.below(n)
			if c.below(6) == 0 {
				b = strange(n)[c.below(10)]
			}
			g.Edges[a] = append(g.Edges[a], api.Edge{To: b, Act: k})
			if c.below(5) == 0 {
				g.Edges[a] = append(g.Edges[a], api.Edge{To: b, Act: -k})
			}
		}
		l = append(l, g)
	}
	return l
}

// ways: of each two nodes whether a way leads from the one to the other.
func ways(g api.Graph) [][]bool {
	n := len(g.Edges)
	out := make([][]bool, n)
	for a, row := range g.Edges {
		out[a] = make([]bool, n)
		out[a][a] = true
		for _, e := range row {
			if e.To >= 0 && e.To < n {
				out[a][e.To] = true
			}
		}
	}
	for m := range n {
		for a := range n {
			for b := range n {
				out[a][b] = out[a][b] || out[a][m] && out[m][b]
			}
		}
	}
	return out
}

// least: the shortest way, of several the least one, by trying all rows of nodes in their order.
func least(g api.Graph, from []int, goal []bool) []int {
	n := len(g.Edges)
	leads := func(a, b int) bool {
		return slices.ContainsFunc(g.Edges[a], func(e api.Edge) bool { return e.To == b })
	}
	var try func(way []int, left int) []int
	try = func(way []int, left int) []int {
		if left == 0 {
			if end := way[len(way)-1]; end < len(goal) && goal[end] {
				return way
			}
			return nil
		}
		for b := range n {
			if len(way) == 0 && slices.Contains(from, b) || len(way) > 0 && leads(way[len(way)-1], b) {
				if out := try(append(slices.Clone(way), b), left-1); out != nil {
					return out
				}
			}
		}
		return nil
	}
	for long := 1; long <= n; long++ {
		if way := try(nil, long); way != nil {
			return way
		}
	}
	return nil
}

func isPath(t *testing.T, name string, g api.Graph, from []int, goal []bool, want ...int) {
	t.Helper()
	if got, is := graph.Path(g, from, goal); !slices.Equal(got, want) || is != (len(want) > 0) {
		t.Errorf("%s: Path of %v from %v to %v: %v, %v; not %v", name, g.Edges, from, goal, got, is, want)
	}
}

// P6.1
func TestCheck(t *testing.T) {
	if why := graph.Check(api.Graph{}); why != api.OK {
		t.Error("no nodes:", why)
	}
	good := of(to(1, 2, 1, 0), nil, to(0))
	good.Init = []int{2, 0, 2}
	if why := graph.Check(good); why != api.OK {
		t.Error(why)
	}
	good.Init = nil
	if why := graph.Check(good); why != api.OK {
		t.Error("no starts:", why)
	}
	for _, n := range strange(3) {
		for place := range 3 {
			g := clone(good)
			g.Init = []int{0, 1, 2}
			g.Init[place] = n
			if why := graph.Check(g); why != api.ErrRange {
				t.Errorf("start %d: %v", n, why)
			}
			g = clone(good)
			g.Edges[place] = append(g.Edges[place], api.Edge{To: n})
			if why := graph.Check(g); why != api.ErrRange {
				t.Errorf("edge to %d: %v", n, why)
			}
		}
	}
	for _, labels := range []int{0, 1, 2, 4, 100} {
		g := clone(good)
		g.Labels = make([]uint64, labels)
		if why := graph.Check(g); why != api.ErrForm {
			t.Errorf("%d labels: %v", labels, why)
		}
	}
	for _, g := range []api.Graph{{Init: []int{0}}, {Init: []int{-1}}} {
		if why := graph.Check(g); why != api.ErrRange {
			t.Error("a start without nodes:", why)
		}
	}
	if why := graph.Check(api.Graph{Labels: make([]uint64, 1)}); why != api.ErrForm {
		t.Error("a label without nodes:", why)
	}
}

// P6.1: how many nodes there may be.
func TestCheckMany(t *testing.T) {
	for n, want := range map[int]api.Errno{api.MaxNodes - 1: api.OK, api.MaxNodes: api.OK, api.MaxNodes + 1: api.ErrMany, 3 * api.MaxNodes: api.ErrMany} {
		g := api.Graph{Init: []int{n - 1}, Edges: make([][]api.Edge, n), Labels: make([]uint64, n)}
		g.Edges[n-1] = to(n-1, 0)
		if why := graph.Check(g); why != want {
			t.Errorf("%d nodes: %v, not %v", n, why, want)
		}
	}
}

// P6.1: the errors' order.
func TestCheckOrder(t *testing.T) {
	many := make([][]api.Edge, api.MaxNodes+1)
	many[0] = to(-1)
	for i, x := range []struct {
		g    api.Graph
		want api.Errno
	}{
		{api.Graph{Init: []int{-1}, Edges: many}, api.ErrMany},
		{api.Graph{Edges: many, Labels: make([]uint64, len(many))}, api.ErrMany},
		{api.Graph{Edges: many, Labels: make([]uint64, 1)}, api.ErrMany},
		{api.Graph{Init: []int{-1}, Edges: [][]api.Edge{to(9)}}, api.ErrForm},
		{api.Graph{Init: []int{0}, Edges: [][]api.Edge{to(9)}, Labels: make([]uint64, 2)}, api.ErrForm},
	} {
		if why := graph.Check(x.g); why != x.want {
			t.Errorf("%d: %v, not %v", i, why, x.want)
		}
	}
}

// P6.2
func TestReach(t *testing.T) {
	g := of(to(1, 2), to(3), to(3), nil, to(0, 4), nil)
	for _, x := range []struct {
		from, want []int
	}{
		{[]int{0}, []int{0, 1, 2, 3}}, {[]int{1}, []int{1, 3}}, {[]int{3}, []int{3}}, {[]int{4}, []int{0, 1, 2, 3, 4}}, {[]int{5}, []int{5}},
		{nil, nil}, {[]int{5, 2, 5}, []int{2, 3, 5}}, {[]int{1, 2, 3, 4, 5, 0}, []int{0, 1, 2, 3, 4, 5}},
	} {
		want := make([]bool, 6)
		for _, n := range x.want {
			want[n] = true
		}
		if got := graph.Reach(g, x.from); !slices.Equal(got, want) {
			t.Errorf("from %v: %v", x.from, got)
		}
	}
}

// P6.2
func TestBack(t *testing.T) {
	g := of(to(1, 2), to(3), to(3), nil, to(0, 4), nil)
	for _, x := range []struct {
		goal, want []int
	}{
		{[]int{3}, []int{0, 1, 2, 3, 4}}, {[]int{1}, []int{0, 1, 4}}, {[]int{0}, []int{0, 4}}, {[]int{4}, []int{4}}, {[]int{5}, []int{5}},
		{nil, nil}, {[]int{2, 5}, []int{0, 2, 4, 5}}, {[]int{0, 1, 2, 3, 4, 5}, []int{0, 1, 2, 3, 4, 5}},
	} {
		goal, want := make([]bool, 6), make([]bool, 6)
		for _, n := range x.goal {
			goal[n] = true
		}
		for _, n := range x.want {
			want[n] = true
		}
		if got := graph.Back(g, goal); !slices.Equal(got, want) {
			t.Errorf("to %v: %v", x.goal, got)
		}
	}
}

// P6.2, P6.4: goals for which there is no value, values for which there is no node, starts and edges that are none.
func TestStrange(t *testing.T) {
	g := of(append(to(strange(3)...), to(1)...), append(to(2), to(strange(3)...)...), to(strange(3)...))
	no, all := make([]bool, 3), []bool{true, true, true}
	starts := append(append(strange(3), 1), strange(3)...)
	if got := graph.Reach(g, starts); !slices.Equal(got, []bool{false, true, true}) {
		t.Error("Reach:", got)
	}
	if got := graph.Reach(g, strange(3)); !slices.Equal(got, no) {
		t.Error("Reach of no start:", got)
	}
	for _, goal := range [][]bool{nil, {}, {false}, {false, false}, no, {false, false, false, true}, append(no[:3:3], slices.Repeat([]bool{true}, 100)...)} {
		if got := graph.Back(g, goal); !slices.Equal(got, no) {
			t.Errorf("Back of %v: %v", goal, got)
		}
		isPath(t, "no goal", g, []int{0, 1, 2}, goal)
	}
	for _, goal := range [][]bool{{false, true}, {false, true, false}, {false, true, false, true, true}} {
		if got := graph.Back(g, goal); !slices.Equal(got, []bool{true, true, false}) {
			t.Errorf("Back of %v: %v", goal, got)
		}
		isPath(t, "a goal", g, []int{0}, goal, 0, 1)
	}
	isPath(t, "no start", g, strange(3), all)
	isPath(t, "some starts", g, starts, []bool{false, false, true, true}, 1, 2)
	none := api.Graph{Init: []int{0, -1}, Labels: []uint64{1}}
	if len(graph.Reach(none, []int{0, -1, 1})) != 0 || len(graph.Back(none, []bool{true})) != 0 || len(graph.Turn(none).Edges) != 0 || len(graph.Total(none).Edges) != 0 {
		t.Error("no nodes")
	}
	isPath(t, "no nodes", none, []int{0, -1}, []bool{true})
}

// P6.2, P6.4: labels and Init play no part.
func TestNoLabels(t *testing.T) {
	g := of(to(1), to(2), nil)
	for _, labels := range [][]uint64{nil, {1}, make([]uint64, 9)} {
		for _, init := range [][]int{nil, {0}, {2, 7, -1}} {
			g.Labels, g.Init = labels, init
			if !slices.Equal(graph.Reach(g, []int{1}), []bool{false, true, true}) || !slices.Equal(graph.Back(g, []bool{false, true}), []bool{true, true, false}) {
				t.Error(labels, init)
			}
			isPath(t, "labels", g, []int{0}, []bool{false, false, true}, 0, 1, 2)
		}
	}
}

// P6.3
func TestTurn(t *testing.T) {
	g := api.Graph{Init: []int{2, 0, 2, 9, -1}, Labels: []uint64{5, 0, math.MaxUint64}, Edges: [][]api.Edge{
		{{To: 2, Act: 7}, {To: 0, Act: -3}, {To: 2, Act: 1}, {To: 3, Act: 8}, {To: 2, Act: 7}},
		{{To: -1, Act: 4}},
		{{To: 2, Act: math.MinInt}, {To: 0, Act: math.MaxInt}, {To: 2, Act: 0}},
	}}
	want := api.Graph{Init: []int{2, 0, 2, 9, -1}, Labels: []uint64{5, 0, math.MaxUint64}, Edges: [][]api.Edge{
		{{To: 0, Act: -3}, {To: 2, Act: math.MaxInt}},
		nil,
		{{To: 0, Act: 7}, {To: 0, Act: 1}, {To: 0, Act: 7}, {To: 2, Act: math.MinInt}, {To: 2, Act: 0}},
	}}
	if got := graph.Turn(g); !like(got, want) {
		t.Error(got)
	}
	for _, labels := range [][]uint64{nil, {3}, {1, 2, 3, 4}} {
		g.Labels = labels
		if got := graph.Turn(g); !slices.Equal(got.Labels, labels) {
			t.Error(got.Labels)
		}
		if got := graph.Total(g); !slices.Equal(got.Labels, labels) {
			t.Error(got.Labels)
		}
	}
}

// P6.3
func TestTotal(t *testing.T) {
	if got := graph.Total(of(nil)); !like(got, of([]api.Edge{{To: 0, Act: -1}})) {
		t.Error(got)
	}
	g := api.Graph{Init: []int{3, 3, 4, -1, 0}, Labels: []uint64{1, 2, 3, 4}, Edges: [][]api.Edge{
		{{To: 4, Act: 1}, {To: 3, Act: 2}, {To: -1, Act: 3}, {To: 0, Act: 4}, {To: 3, Act: 2}},
		{{To: 4, Act: 5}, {To: math.MinInt, Act: 6}},
		nil,
		{{To: 3, Act: 9}},
	}}
	want := api.Graph{Init: []int{3, 3, 4, -1, 0}, Labels: []uint64{1, 2, 3, 4}, Edges: [][]api.Edge{
		{{To: 3, Act: 2}, {To: 0, Act: 4}, {To: 3, Act: 2}},
		{{To: 1, Act: -1}},
		{{To: 2, Act: -1}},
		{{To: 3, Act: 9}},
	}}
	if got := graph.Total(g); !like(got, want) || !like(graph.Total(got), want) {
		t.Error(got)
	}
}

// P6.4
func TestPath(t *testing.T) {
	g := of(to(1, 2), to(3), to(3), nil)
	isPath(t, "the example", g, []int{0}, []bool{false, false, false, true}, 0, 1, 3)
	isPath(t, "a start is a goal", g, []int{2, 0, 1}, []bool{false, true, true}, 1)
	isPath(t, "the lesser start", g, []int{2, 1, 2}, []bool{false, false, false, true}, 1, 3)
	isPath(t, "none", g, []int{3, 1, 2}, []bool{true})
	isPath(t, "no starts", g, nil, []bool{true, true, true, true})
	// The edges' order and acts play no part, nor does the order of the starts.
	g = of(to(5, 3, 5, 4), to(0), to(4, 3), to(6, 3), to(7, 6), to(7), nil, nil)
	isPath(t, "edges that fall", g, []int{0}, []bool{7: true}, 0, 4, 7)
	isPath(t, "two goals", g, []int{0}, []bool{6: true, 7: true}, 0, 3, 6)
	isPath(t, "starts that fall", g, []int{2, 1, 0}, []bool{6: true, 7: true}, 0, 3, 6)
	isPath(t, "the first place counts", g, []int{5, 2, 4}, []bool{6: true, 7: true}, 4, 6)
	isPath(t, "fewer nodes count first", g, []int{0, 1, 5}, []bool{6: true, 7: true}, 5, 7)
	// The way to the least goal is not the least way.
	g = of(to(2, 1), to(4), to(3), nil, nil)
	isPath(t, "the greater goal", g, []int{0}, []bool{3: true, 4: true}, 0, 1, 4)
	// Round and round.
	g = of(to(0, 1), to(0, 1, 2), to(0, 1, 2))
	isPath(t, "loops", g, []int{0}, []bool{2: true}, 0, 1, 2)
}

// P6.5
func TestSame(t *testing.T) {
	base := of(to(1, 2), nil, to(0, 0, -5))
	base.Init = []int{2, 0}
	if !graph.Same(base, clone(base)) || !graph.Same(base, base) || !graph.Same(api.Graph{}, api.Graph{Init: []int{}, Edges: [][]api.Edge{}, Labels: []uint64{}}) {
		t.Error("the same")
	}
	empty := clone(base)
	empty.Edges[1] = []api.Edge{}
	if !graph.Same(base, empty) {
		t.Error("an empty list")
	}
	for name, change := range map[string]func(g *api.Graph){
		"a start more":         func(g *api.Graph) { g.Init = append(g.Init, 0) },
		"a start less":         func(g *api.Graph) { g.Init = g.Init[:1] },
		"no starts":            func(g *api.Graph) { g.Init = nil },
		"starts in order":      func(g *api.Graph) { g.Init = []int{0, 2} },
		"a start that is none": func(g *api.Graph) { g.Init[0] = 7 },
		"a node more":          func(g *api.Graph) { g.Edges = append(g.Edges, nil) },
		"a node less":          func(g *api.Graph) { g.Edges = g.Edges[:2] },
		"an edge more":         func(g *api.Graph) { g.Edges[1] = to(9) },
		"an edge less":         func(g *api.Graph) { g.Edges[0] = g.Edges[0][:1] },
		"another end":          func(g *api.Graph) { g.Edges[2][0].To = 1 },
		"another end, none":    func(g *api.Graph) { g.Edges[2][2].To = -6 },
		"another act":          func(g *api.Graph) { g.Edges[2][0].Act++ },
		"edges about":          func(g *api.Graph) { slices.Reverse(g.Edges[0]) },
		"nodes about":          func(g *api.Graph) { slices.Reverse(g.Edges) },
		"a label more":         func(g *api.Graph) { g.Labels = append(g.Labels, 0) },
		"a label less":         func(g *api.Graph) { g.Labels = g.Labels[:2] },
		"another label":        func(g *api.Graph) { g.Labels[2]++ },
		"labels about":         func(g *api.Graph) { slices.Reverse(g.Labels) },
	} {
		g := clone(base)
		change(&g)
		if graph.Same(base, g) || graph.Same(g, base) || !graph.Same(g, clone(g)) {
			t.Error(name)
		}
	}
}

// P6.2, P6.4, P6.6, P6.7: all starts and goals of small graphs, held against what their words say.
func TestSmallGraphs(t *testing.T) {
	for _, g := range small() {
		n, leads := len(g.Edges), ways(g)
		for u := range 1 << n {
			from, start := some(n, u)
			reach, back := graph.Reach(g, from), graph.Back(g, start)
			if len(reach) != n || len(back) != n {
				t.Fatalf("%v: %v, %v", g.Edges, reach, back)
			}
			for b := range n {
				if want := slices.ContainsFunc(from, func(a int) bool { return leads[a][b] }); reach[b] != want {
					t.Errorf("%v: Reach of %v at %d is %v", g.Edges, from, b, !want)
				}
				if want := slices.ContainsFunc(from, func(a int) bool { return leads[b][a] }); back[b] != want {
					t.Errorf("%v: Back of %v at %d is %v", g.Edges, from, b, !want)
				}
			}
			if !slices.Equal(graph.Reach(graph.Turn(g), from), back) || !slices.Equal(graph.Back(graph.Turn(g), start), reach) {
				t.Errorf("%v: turned about, %v", g.Edges, from)
			}
			slices.Reverse(from)
			for v := range 1 << n {
				_, goal := some(n, v)
				isPath(t, "small", g, from, goal, least(g, from, goal)...)
			}
		}
	}
}

// P6.3, P6.6: small graphs, held against what their words say.
func TestTurnedAndTotal(t *testing.T) {
	for _, g := range small() {
		n := len(g.Edges)
		turned, total := api.Graph{Init: g.Init, Labels: g.Labels}, api.Graph{Init: g.Init, Labels: g.Labels}
		for b := range n {
			var behind, left []api.Edge
			for a := range n {
				for _, e := range g.Edges[a] {
					if e.To == b {
						behind = append(behind, api.Edge{To: a, Act: e.Act})
					}
				}
			}
			for _, e := range g.Edges[b] {
				if e.To >= 0 && e.To < n {
					left = append(left, e)
				}
			}
			if left == nil {
				left = []api.Edge{{To: b, Act: -1}}
			}
			turned.Edges, total.Edges = append(turned.Edges, behind), append(total.Edges, left)
		}
		if got := graph.Turn(g); !like(got, turned) {
			t.Errorf("%v turned: %v", g.Edges, got.Edges)
		}
		got := graph.Total(g)
		if !like(got, total) || graph.Check(got) != api.OK {
			t.Errorf("%v made total: %v", g.Edges, got.Edges)
		}
	}
}

// P6.7: a way's nodes but the last one are no goal; each is led to by the one ahead; no way is shorter.
func TestShortest(t *testing.T) {
	c := chance(3)
	for i := range 60 {
		n := 20 + i
		g := api.Graph{Edges: make([][]api.Edge, n), Labels: make([]uint64, n)}
		for range 2 * n {
			a := c.below(n)
			g.Edges[a] = append(g.Edges[a], api.Edge{To: c.below(n)})
		}
		from, goal := []int{c.below(n), c.below(n)}, make([]bool, n)
		goal[c.below(n)], goal[c.below(n)] = true, true
		way, is := graph.Path(g, from, goal)
		reach, back := graph.Reach(g, from), graph.Back(g, goal)
		if is != (back[from[0]] || back[from[1]]) || !is && way != nil {
			t.Fatalf("%v from %v to %v: %v, %v", g.Edges, from, goal, way, is)
		}
		if !is {
			continue
		}
		if !slices.Contains(from, way[0]) || !goal[way[len(way)-1]] {
			t.Errorf("%v is no way from %v", way, from)
		}
		for k, a := range way {
			if !reach[a] || !back[a] || k < len(way)-1 && (goal[a] || !slices.ContainsFunc(g.Edges[a], func(e api.Edge) bool { return e.To == way[k+1] })) {
				t.Errorf("%v: at %d", way, k)
			}
		}
		near := slices.Clone(from)
		for range len(way) - 1 {
			if slices.ContainsFunc(near, func(a int) bool { return goal[a] }) {
				t.Errorf("%v is not the shortest", way)
			}
			var next []int
			for _, a := range near {
				for _, e := range g.Edges[a] {
					if !slices.Contains(next, e.To) {
						next = append(next, e.To)
					}
				}
			}
			near = next
		}
	}
}

// P6.2 to P6.4: a graph of more nodes than may be is a graph, too; so is one that is deep, and one that is broad.
func TestGreatGraphs(t *testing.T) {
	n := api.MaxNodes + 5000
	deep, broad := api.Graph{Edges: make([][]api.Edge, n)}, api.Graph{Edges: make([][]api.Edge, n)}
	for a := range n - 1 {
		deep.Edges[a] = to(a + 1)
		if a > 0 {
			broad.Edges[0] = append(broad.Edges[0], api.Edge{To: n - 1 - a})
			broad.Edges[a] = to(n - 1)
		}
	}
	goal := make([]bool, n)
	goal[n-1] = true
	for name, g := range map[string]api.Graph{"deep": deep, "broad": broad} {
		if slices.Contains(graph.Reach(g, []int{0}), false) || slices.Contains(graph.Back(g, goal), false) || slices.Contains(graph.Reach(graph.Turn(g), []int{n - 1}), false) {
			t.Error(name)
		}
		if graph.Check(graph.Total(g)) != api.ErrMany || len(graph.Total(g).Edges) != n || len(graph.Turn(g).Edges) != n {
			t.Error(name, "total, turned")
		}
	}
	if way, is := graph.Path(broad, []int{0}, goal); !is || !slices.Equal(way, []int{0, 1, n - 1}) {
		t.Error("broad:", way, is)
	}
	if way, is := graph.Path(deep, []int{0}, goal); !is || len(way) != n || !slices.IsSorted(way) {
		t.Error("deep:", len(way), is)
	}
	if way, is := graph.Path(deep, []int{1}, []bool{true}); is || way != nil {
		t.Error("deep: back")
	}
}

// The rules that hold everywhere: nothing that is handed in is changed, and nothing behind a list's length plays a part.
func TestArgumentsStay(t *testing.T) {
	init, labels, row := []int{1, 0, 7}, []uint64{1, 2, 3, 4}, to(2, 1, 0, 1)
	from, goal := []int{2, 1, 0}, []bool{false, false, true, true}
	edges := [][]api.Edge{row[:2], nil, row[:1], to(0)}
	g := api.Graph{Init: init[:2], Edges: edges[:3], Labels: labels[:3]}
	before := clone(api.Graph{Init: init, Edges: edges, Labels: labels})
	calls := func(g api.Graph) string {
		way, is := graph.Path(g, from[:2], goal[:3])
		return fmt.Sprint(graph.Check(g), graph.Reach(g, from[:2]), graph.Back(g, goal[:3]), graph.Turn(g), graph.Total(g), way, is, graph.Same(g, clone(g)))
	}
	if got, want := calls(g), calls(clone(g)); got != want {
		t.Errorf("%s, not %s", got, want)
	}
	if !like(api.Graph{Init: init, Edges: edges, Labels: labels}, before) || !slices.Equal(from, []int{2, 1, 0}) || !slices.Equal(goal, []bool{false, false, true, true}) || !slices.Equal(row, to(2, 1, 0, 1)) {
		t.Error("an argument is changed")
	}
}

// The rules that hold everywhere: what is answered is new, and no list of it shares anything with another one.
func TestAnswersAreNew(t *testing.T) {
	for name, call := range map[string]func(api.Graph) api.Graph{"Turn": graph.Turn, "Total": graph.Total} {
		g := of(to(1, 0, 2), to(1, 1), to(2, 0), nil)
		before, want := clone(g), clone(call(g))
		out := call(g)
		for n := range out.Edges {
			other := clone(out)
			row := out.Edges[n][:cap(out.Edges[n])]
			for i := range row {
				row[i] = api.Edge{To: -77, Act: 77}
			}
			other.Edges[n], out.Edges[n] = nil, nil
			if !like(out, other) {
				t.Errorf("%s: the edges of %d are shared", name, n)
			}
		}
		clear(out.Init[:cap(out.Init)])
		for i := range out.Labels[:cap(out.Labels)] {
			out.Labels[:cap(out.Labels)][i] = 99
		}
		if !like(g, before) || !like(call(g), want) {
			t.Errorf("%s: the argument is changed", name)
		}
		out = call(g)
		g.Init[0], g.Labels[0], g.Edges[0][0], g.Edges[1] = 3, 3, api.Edge{To: 3}, to(3)
		if !like(out, want) {
			t.Errorf("%s: the answer is changed", name)
		}
	}
}
