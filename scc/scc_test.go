package scc_test

import (
	"fmt"
	"math"
	"slices"
	"testing"

	"lariat/api"
	"lariat/graph"
	"lariat/scc"
)

// strange: numbers that are no node of n nodes.
func strange(n int) []int {
	return []int{-1, -2, -n - 1, n, n + 1, 2*n + 64, 1 << 40, math.MaxInt, math.MinInt, math.MinInt + 1}
}

// to: edges to these nodes, with acts that differ.
func to(nodes ...int) []api.Edge {
	var l []api.Edge
	for i, n := range nodes {
		l = append(l, api.Edge{To: n, Act: 10*n%97 - i})
	}
	return l
}

// of: a graph of these edges.
func of(edges ...[]api.Edge) api.Graph {
	return api.Graph{Edges: edges, Labels: make([]uint64, len(edges))}
}

// chance: numbers that look like chance, the same each time.
type chance uint64

func (c *chance) below(n int) int {
	*c = *c*6364136223846793005 + 1442695040888963407
	return int(*c>>33) % n
}

// small: all graphs of up to three nodes with at most one edge from each node to each one, and many of more nodes: with several edges, some of them to no node.
func small() []api.Graph {
	var l []api.Graph
	for n := range 4 {
		for u := range 1 << (n * n) {
			g := of(make([][]api.Edge, n)...)
			for i := range n * n {
				if u>>i&1 == 1 {
					g.Edges[i/n] = append(g.Edges[i/n], api.Edge{To: i % n, Act: i})
				}
			}
			l = append(l, g)
		}
	}
	c := chance(11)
	for i := range 2000 {
		n := 2 + i%9
		g := of(make([][]api.Edge, n)...)
		for k := range c.below(3*n) + n/2 {
			a, b := c.below(n), c.below(n)
			if c.below(6) == 0 {
				b = strange(n)[c.below(10)]
			}
			g.Edges[a] = append(g.Edges[a], api.Edge{To: b, Act: k})
			if c.below(5) == 0 {
				g.Edges[a] = append(g.Edges[a], api.Edge{To: b, Act: -k})
			}
		}
		l = append(l, g)
	}
	return l
}

// ways: of each two nodes whether a way of one edge or more leads from the one to the other.
func ways(g api.Graph) [][]bool {
	n := len(g.Edges)
	out := make([][]bool, n)
	for a, row := range g.Edges {
		out[a] = make([]bool, n)
		for _, e := range row {
			if e.To >= 0 && e.To < n {
				out[a][e.To] = true
			}
		}
	}
	for m := range n {
		for a := range n {
			for b := range n {
				out[a][b] = out[a][b] || out[a][m] && out[m][b]
			}
		}
	}
	return out
}

func isOf(t *testing.T, name string, g api.Graph, want ...int) {
	t.Helper()
	if got := scc.Of(g); !slices.Equal(got, want) {
		t.Errorf("%s: Of %v: %v, not %v", name, g.Edges, got, want)
	}
}

func isParts(t *testing.T, name string, g api.Graph, want ...[]int) {
	t.Helper()
	if got := scc.Parts(g); !slices.EqualFunc(got, want, slices.Equal[[]int]) {
		t.Errorf("%s: Parts of %v: %v, not %v", name, g.Edges, got, want)
	}
}

func isLive(t *testing.T, name string, g api.Graph, want ...bool) {
	t.Helper()
	if got := scc.Live(g); !slices.Equal(got, want) {
		t.Errorf("%s: Live of %v: %v, not %v", name, g.Edges, got, want)
	}
}

// P7.1
func TestOf(t *testing.T) {
	isOf(t, "the example", of(to(1), to(0, 2), nil), 0, 0, 2)
	isOf(t, "no nodes", api.Graph{})
	isOf(t, "one", of(nil), 0)
	isOf(t, "one, to itself", of(to(0)), 0)
	isOf(t, "two apart", of(nil, nil), 0, 1)
	isOf(t, "one way alone", of(to(1), nil), 0, 1)
	isOf(t, "one way alone, back", of(nil, to(0)), 0, 1)
	isOf(t, "a ring", of(to(3), to(0), to(1), to(2)), 0, 0, 0, 0)
	isOf(t, "two rings, the first leads", of(to(3), to(2, 4), to(4), to(0, 1), to(1)), 0, 1, 1, 0, 1)
	isOf(t, "two rings, the last leads", of(to(2), to(3), to(0), to(1, 2)), 0, 1, 0, 1)
	isOf(t, "the least one comes last", of(nil, to(2), to(3, 0), to(1)), 0, 1, 1, 1)
	isOf(t, "a ring by way of a ring", of(to(1), to(2, 0), to(3, 1), to(2)), 0, 0, 0, 0)
	isOf(t, "one behind the other", of(to(1, 2, 3), to(2, 3), to(3), nil), 0, 1, 2, 3)
	isOf(t, "several edges", of(to(1, 1, 0, 1), to(1, 1), to(2, 0)), 0, 1, 2)
}

// P7.1
func TestParts(t *testing.T) {
	isParts(t, "the example", of(to(1), to(0, 2), nil), []int{0, 1}, []int{2})
	isParts(t, "no nodes", api.Graph{})
	isParts(t, "one", of(nil), []int{0})
	isParts(t, "apart", of(nil, to(1), nil), []int{0}, []int{1}, []int{2})
	isParts(t, "about each other", of(to(4), to(3), to(2), to(1), to(0)), []int{0, 4}, []int{1, 3}, []int{2})
	isParts(t, "the last leads to the first", of(nil, to(0), to(4, 1), to(2), to(3)), []int{0}, []int{1}, []int{2, 3, 4})
	isParts(t, "a ring", of(to(3), to(0), to(1), to(2)), []int{0, 1, 2, 3})
}

// P7.2: part is taken as it is: its numbers need not be a part.
func TestCyclic(t *testing.T) {
	g := of(to(1), to(0, 2), nil, to(2, 3, 9), to(9, -1, 5))
	for _, x := range []struct {
		part []int
		want bool
	}{
		{[]int{0, 1}, true}, {[]int{1, 0}, true}, {[]int{2}, false}, {[]int{3}, true}, {[]int{4}, false}, {nil, false}, {[]int{}, false},
		{[]int{0}, false}, {[]int{1}, false}, {[]int{0, 0}, false}, {[]int{2, 2, 2}, false}, {[]int{3, 3}, true}, {[]int{0, 0, 0, 1}, true},
		{[]int{2, 4}, true}, {[]int{0, 2}, true}, {[]int{4, 2, 4}, true}, {[]int{0, 1, 2, 3, 4}, true},
		{[]int{5}, false}, {[]int{-1}, false}, {[]int{9, -1, 5}, false}, {strange(5), false},
		{append(strange(5), 2), false}, {append([]int{2}, strange(5)...), false}, {append([]int{4}, append(strange(5), 4)...), false},
		{append(strange(5), 3), true}, {append([]int{3}, strange(5)...), true}, {append([]int{4}, append(strange(5), 2)...), true},
	} {
		if got := scc.Cyclic(g, x.part); got != x.want {
			t.Errorf("%v: %v", x.part, got)
		}
	}
	for _, part := range [][]int{nil, {0}, {0, 1}, {-1, 0, 1}} {
		if scc.Cyclic(api.Graph{Init: part, Labels: []uint64{1, 2}}, part) {
			t.Errorf("%v of no nodes", part)
		}
	}
}

// P7.2
func TestLive(t *testing.T) {
	isLive(t, "the example", of(to(1), to(0, 2), nil), true, true, false)
	isLive(t, "no nodes", api.Graph{})
	isLive(t, "one", of(nil), false)
	isLive(t, "one, to itself", of(to(0)), true)
	isLive(t, "to a live one, and behind it", of(to(1), to(1, 2), nil), false, true, false)
	isLive(t, "between two", of(to(1, 0), to(2), to(2)), true, false, true)
	isLive(t, "a ring", of(to(3), to(0), to(1), to(2)), true, true, true, true)
}

// P7.1, P7.2: edges that lead to no node play no part.
func TestStrange(t *testing.T) {
	for _, n := range strange(3) {
		g := of(to(n, 1), to(n), to(n, n))
		isOf(t, "strange", g, 0, 1, 2)
		isParts(t, "strange", g, []int{0}, []int{1}, []int{2})
		isLive(t, "strange", g, false, false, false)
		for node := range 3 {
			if scc.Cyclic(g, []int{node, n}) {
				t.Error("Cyclic:", node, n)
			}
		}
		g = of(to(n, 2, n), to(n, n, 1), to(n, n, n, 0))
		isOf(t, "strange edges ahead", g, 0, 1, 0)
		isParts(t, "strange edges ahead", g, []int{0, 2}, []int{1})
		isLive(t, "strange edges ahead", g, true, true, true)
	}
	if g := of(to(strange(1)...)); !slices.Equal(scc.Of(g), []int{0}) || scc.Live(g)[0] || scc.Cyclic(g, []int{0}) {
		t.Error("one node")
	}
}

// P7.1, P7.2: Init, labels and acts play no part.
func TestNoLabels(t *testing.T) {
	for i, init := range [][]int{nil, {0}, {2, 7, -1}} {
		for _, labels := range [][]uint64{nil, {1}, make([]uint64, 9)} {
			g := of(to(1), to(0, 2), nil)
			g.Init, g.Labels = init, labels
			for _, row := range g.Edges {
				for k := range row {
					row[k].Act = []int{-1, 0, math.MinInt}[i]
				}
			}
			isOf(t, "labels", g, 0, 0, 2)
			isParts(t, "labels", g, []int{0, 1}, []int{2})
			isLive(t, "labels", g, true, true, false)
			if !scc.Cyclic(g, []int{0, 1}) || scc.Cyclic(g, []int{2}) {
				t.Error("Cyclic:", init, labels)
			}
		}
	}
}

// P7.1 to P7.4: small graphs, held against what the words say.
func TestSmallGraphs(t *testing.T) {
	for _, g := range small() {
		n, leads := len(g.Edges), ways(g)
		least, live, parts := make([]int, n), make([]bool, n), [][]int(nil)
		for a := range n {
			live[a] = leads[a][a]
			var part []int
			for b := range n {
				if a == b || leads[a][b] && leads[b][a] {
					part = append(part, b)
				}
			}
			if least[a] = part[0]; least[a] == a {
				parts = append(parts, part)
			}
		}
		isOf(t, "small", g, least...)
		isParts(t, "small", g, parts...)
		isLive(t, "small", g, live...)
		for _, part := range parts {
			want := live[part[0]]
			if scc.Cyclic(g, part) != want || scc.Cyclic(g, slices.Concat(strange(n), part, part)) != want {
				t.Errorf("%v: Cyclic of %v is %v", g.Edges, part, !want)
			}
		}
	}
}

// P7.3, P7.4: each node is in just one part; Live is true just of those of parts that are Cyclic; no way leads from a part to another one and back.
func TestPartsOfMore(t *testing.T) {
	c := chance(5)
	for i := range 60 {
		n := 30 + 7*i
		g := of(make([][]api.Edge, n)...)
		for range n + i*n/40 {
			a := c.below(n)
			g.Edges[a] = append(g.Edges[a], api.Edge{To: c.below(n)})
		}
		least, live, seen := scc.Of(g), scc.Live(g), make([]bool, n)
		if len(least) != n || len(live) != n {
			t.Fatal(least, live)
		}
		for k, part := range scc.Parts(g) {
			reach, goal := graph.Reach(g, part[:1]), make([]bool, n)
			goal[part[0]] = true
			back := graph.Back(g, goal)
			for _, a := range part {
				if seen[a] || least[a] != part[0] || live[a] != scc.Cyclic(g, part) {
					t.Errorf("%v: part %d: node %d", g.Edges, k, a)
				}
				seen[a] = true
			}
			for a := range n {
				if reach[a] && back[a] != slices.Contains(part, a) {
					t.Errorf("%v: part %d: a way to %d and back", g.Edges, k, a)
				}
			}
		}
		if slices.Contains(seen, false) {
			t.Errorf("%v: %v", g.Edges, seen)
		}
	}
}

// P7.1, P7.2: a graph of more nodes than may be is a graph, too; so is one that is deep, and one that is broad.
func TestGreatGraphs(t *testing.T) {
	n := 10*api.MaxNodes + 5000
	deep, back, broad := of(make([][]api.Edge, n)...), of(make([][]api.Edge, n)...), of(make([][]api.Edge, n)...)
	for a := range n - 1 {
		deep.Edges[a] = to(a + 1)
		back.Edges[a+1] = to(a)
		broad.Edges[0] = append(broad.Edges[0], api.Edge{To: n - 1 - a})
		broad.Edges[a+1] = to(n - 1)
	}
	for name, g := range map[string]api.Graph{"deep": deep, "back": back} {
		if least := scc.Of(g); len(least) != n || least[0] != 0 || least[n/2] != n/2 || least[n-1] != n-1 || slices.Contains(scc.Live(g), true) || len(scc.Parts(g)) != n {
			t.Error(name)
		}
	}
	if least, live := scc.Of(broad), scc.Live(broad); least[1] != 1 || least[n-1] != n-1 || live[0] || live[1] || !live[n-1] || len(scc.Parts(broad)) != n {
		t.Error("broad")
	}
	deep.Edges[n-1], back.Edges[1000] = to(0), append(to(n-1), back.Edges[1000]...)
	if parts := scc.Parts(deep); len(parts) != 1 || len(parts[0]) != n || !slices.IsSorted(parts[0]) || !scc.Cyclic(deep, parts[0]) || slices.Contains(scc.Live(deep), false) {
		t.Error("deep, round")
	}
	if parts := scc.Parts(back); len(parts) != 1001 || len(parts[1000]) != n-1000 || !slices.IsSorted(parts[1000]) || slices.Index(scc.Live(back), true) != 1000 {
		t.Error("back, round")
	}
}

// The rules that hold everywhere: nothing that is handed in is changed, and nothing behind a list's length plays a part.
func TestArgumentsStay(t *testing.T) {
	row := to(1, 0, 2)
	edges := [][]api.Edge{row[:1], row[:2:2], nil, to(0)}
	part := []int{2, 2, 0}
	calls := func(edges [][]api.Edge, part []int) string {
		g := api.Graph{Edges: edges}
		return fmt.Sprint(scc.Of(g), scc.Parts(g), scc.Live(g), scc.Cyclic(g, part), scc.Of(g))
	}
	apart := [][]api.Edge{slices.Clone(row[:1:1]), slices.Clone(row[:2:2]), nil}
	if got, want := calls(edges[:3], part[:2]), calls(apart, []int{2, 2}); got != want {
		t.Errorf("%s, not %s", got, want)
	}
	if !slices.Equal(row, to(1, 0, 2)) || len(edges[0]) != 1 || len(edges[1]) != 2 || edges[2] != nil || !slices.Equal(edges[3], to(0)) || !slices.Equal(part, []int{2, 2, 0}) {
		t.Error("an argument is changed")
	}
}

// The rules that hold everywhere: what is answered is new, and no list of it shares anything with another one.
func TestAnswersAreNew(t *testing.T) {
	g := of(to(1), to(0, 2), to(3), to(2), nil)
	of, live := scc.Of(g), scc.Live(g)
	of[0], live[0] = 99, false
	for i := range scc.Parts(g) {
		parts := scc.Parts(g)
		l := parts[i][:cap(parts[i])]
		for k := range l {
			l[k] = -7
		}
		for k, want := range scc.Parts(g) {
			if k != i && !slices.Equal(parts[k], want) {
				t.Errorf("part %d shares with %d", k, i)
			}
		}
	}
	isOf(t, "again", g, 0, 0, 2, 2, 4)
	isParts(t, "again", g, []int{0, 1}, []int{2, 3}, []int{4})
	isLive(t, "again", g, true, true, true, true, false)
}
