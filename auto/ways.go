package auto

import (
	"iter"

	"lariat/api"
	"lariat/bits"
	"lariat/graph"
	"lariat/scc"
)

// reading tells those of l, nodes of a, that a run may go on with, in order: reads tells whether a node reads what stands there.
func reading(a api.Auto, l []int, reads func(n api.ANode) bool) iter.Seq[int] {
	return func(yield func(int) bool) {
		for _, q := range l {
			if reads(a.Nodes[q]) && !yield(q) {
				return
			}
		}
	}
}

// nodes are all nodes of a, rising.
func nodes(a api.Auto) []int {
	l := make([]int, len(a.Nodes))
	for q := range l {
		l[q] = q
	}
	return l
}

// able tells whether n can read: there is a set that it reads.
func able(n api.ANode) bool {
	return n.Need&n.Ban == 0
}

// ways is the graph of a's nodes, without edges from and to those that can't read; what a node leads to again and again it leads to once.
func ways(a api.Auto) api.Graph {
	g := api.Graph{Edges: make([][]api.Edge, len(a.Nodes))}
	for q := range reading(a, nodes(a), able) {
		met := bits.New(len(a.Nodes))
		for to := range reading(a, a.Nodes[q].To, able) {
			if met.Put(to) {
				g.Edges[q] = append(g.Edges[q], api.Edge{To: to})
			}
		}
	}
	return g
}

// rounds are the parts of g, the graph of a, in which a way goes on for ever and meets each set again and again.
func rounds(a api.Auto, g api.Graph) [][]int {
	var parts [][]int
	for _, part := range scc.Parts(g) {
		in := uint64(0)
		for _, q := range part {
			in |= a.Nodes[q].In
		}
		if in == every(a) && scc.Cyclic(g, part) {
			parts = append(parts, part)
		}
	}
	return parts
}

// every has a bit for each set of a.
func every(a api.Auto) uint64 {
	return 1<<a.Sets - 1
}

// used tells of each node of a whether it is of use. One that can't read has no edge and is in no round, so that no way leads from it to one.
func used(a api.Auto) []bool {
	g, goal := ways(a), make([]bool, len(a.Nodes))
	for _, part := range rounds(a, g) {
		mark(goal, part)
	}
	use := graph.Back(g, goal)
	for q, is := range graph.Reach(g, a.Init) {
		use[q] = use[q] && is
	}
	return use
}

// mark makes those places of marks true.
func mark(marks []bool, places []int) {
	for _, q := range places {
		marks[q] = true
	}
}

// lasso is the nodes of a run of a that goes on for ever and meets each set again and again; no loop, if there is none.
func lasso(a api.Auto) (stem, loop []int) {
	g := ways(a)
	for _, part := range rounds(a, g) {
		goal := make([]bool, len(a.Nodes))
		mark(goal, part)
		if way, is := graph.Path(g, a.Init, goal); is {
			last := len(way) - 1
			return way[:last], round(a, inside(g, goal), way[last])
		}
	}
	return nil, nil
}

// inside is g without edges from and to nodes that are not marked.
func inside(g api.Graph, marks []bool) api.Graph {
	out := api.Graph{Edges: make([][]api.Edge, len(g.Edges))}
	for q, row := range g.Edges {
		for _, e := range row {
			if marks[q] && marks[e.To] {
				out.Edges[q] = append(out.Edges[q], e)
			}
		}
	}
	return out
}

// round is the nodes of a way in g, a part of a's graph, from start on: it meets each set, and leads from its last node to start.
func round(a api.Auto, g api.Graph, start int) []int {
	way := []int{start}
	on := func(from []int, goal func(q int) bool) []int {
		goals := make([]bool, len(a.Nodes))
		for q := range goals {
			goals[q] = goal(q)
		}
		path, _ := graph.Path(g, from, goals)
		return path
	}
	for set := range a.Sets {
		path := on(way[len(way)-1:], func(q int) bool { return a.Nodes[q].In>>set&1 == 1 })
		way = append(way, path[1:]...)
	}
	var next []int
	for _, e := range g.Edges[way[len(way)-1]] {
		next = append(next, e.To)
	}
	home := on(next, func(q int) bool { return q == start })
	return append(way, home[:len(home)-1]...)
}

// needs are sets that the nodes of way read, one behind the other.
func needs(a api.Auto, way []int) []uint64 {
	sets := make([]uint64, len(way))
	for i, q := range way {
		sets[i] = a.Nodes[q].Need
	}
	return sets
}
