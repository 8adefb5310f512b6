package space

import (
	"slices"

	"lariat/api"
)

// still is the act, and the Cmd, of a move by no command instance.
const still = -1

// ways is how many acts each command instance has: one for each way that it may have.
const ways = 2

// act is the act of an edge that is the move v.
func act(v api.Move) int {
	if v.Cmd == still {
		return still
	}
	return ways*v.Cmd + v.Way
}

// step is the step of an edge of that act.
func step(act int) api.Step {
	if act < 0 {
		return api.Step{Cmd: still}
	}
	return api.Step{Cmd: act / ways, Way: act % ways}
}

// steps are those from each of nodes to the next one, and from the last of them to end; false, if one of them leads nowhere of the kind.
func steps(g api.Graph, nodes []int, end int) ([]api.Step, bool) {
	var l []api.Step
	for i, from := range nodes {
		to := end
		if i+1 < len(nodes) {
			to = nodes[i+1]
		}
		e, is := edge(g, from, to)
		if !is {
			return nil, false
		}
		l = append(l, step(e.Act))
	}
	return l, true
}

// edge is the first edge of g that leads from one to the other; false, if none does.
func edge(g api.Graph, from, to int) (api.Edge, bool) {
	if from < 0 || from >= len(g.Edges) {
		return api.Edge{}, false
	}
	row := g.Edges[from]
	at := slices.IndexFunc(row, func(e api.Edge) bool { return e.To == to })
	if at < 0 {
		return api.Edge{}, false
	}
	return row[at], true
}
