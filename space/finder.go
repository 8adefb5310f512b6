package space

import (
	"lariat/api"
	"lariat/fire"
	"lariat/octet"
	"lariat/state"
)

// first is the number of the first state.
const first = 0

// finder finds the states of a model that may be, and keeps them by their numbers.
type finder struct {
	model   api.Model
	most    int
	states  [][]int
	numbers map[string]int // of each state, by its bytes
}

func newFinder(m api.Model, most int) *finder {
	return &finder{model: m, most: most, numbers: map[string]int{}}
}

// number is the number of s, which is a new one, if s is found now; false, if there are too many then. It keeps s.
func (f *finder) number(s []int) (int, bool) {
	// octet's bytes tell states apart as well as state's own do, without going through the model for each.
	key := string(octet.List(nil, s))
	if n, is := f.numbers[key]; is {
		return n, true
	}
	n := len(f.states)
	if n >= f.most {
		return 0, false
	}
	f.numbers[key] = n
	f.states = append(f.states, s)
	return n, true
}

// search goes breadth first through all states, and tells the edges of each; false, if there are too many.
func (f *finder) search() ([][]api.Edge, bool) {
	if _, is := f.number(state.First(f.model)); !is {
		return nil, false
	}
	var edges [][]api.Edge
search:
	for len(edges) < len(f.states) {
		var row []api.Edge
		// States have their numbers in the order in which they are found: the next one is the first without edges.
		for _, v := range fire.Moves(f.model, f.states[len(edges)]) {
			to, is := f.number(v.To)
			if !is {
				edges = nil
				break search
			}
			row = append(row, api.Edge{To: to, Act: act(v)})
		}
		edges = append(edges, row)
	}
	return edges, len(edges) > 0
}
