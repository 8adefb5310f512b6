package tableau

import (
	"lariat/api"
	"lariat/ltl"
)

// crowd tells where parts of a formula have more covers than an automaton may have nodes, without listing them: there may be 2^24.
//
// It counts those that fit to one set of propositions. Of these no way comes to nothing, so that parts that lie beside one another are made true each in any of its ways, whatever the way of the other. And it counts by what is made true alone, so that covers which are the same count once.
type crowd struct {
	f     []api.Node
	kids  [][2]int
	props uint64
}

// count is how many ways there are to make true what is named of a node and of the parts in it: made, with the node true too; open, with the node true just if it is named.
type count struct {
	made, open int
}

// crowdOf is what f is told by.
func crowdOf(f []api.Node) crowd {
	c := crowd{f: f, props: ltl.Props(f)}
	for at := range f {
		left, right := ltl.Kids(f, at)
		c.kids = append(c.kids, [2]int{left, right})
	}
	return c
}

// has tells whether more covers make parts true than an automaton may have nodes, all of which fit to one set of propositions.
func (c crowd) has(parts []int) bool {
	named := set(parts)
	for props := range c.props + 1 {
		if props&^c.props == 0 && c.ways(named, props) > api.MaxAuto {
			return true
		}
	}
	return false
}

// ways is how many ways that fit to those propositions there are to make the parts true that are named.
func (c crowd) ways(named, props uint64) int {
	counts := make([]count, len(c.f))
	of := func(part int) count {
		if part < 0 {
			return count{open: 1}
		}
		return counts[part]
	}
	for at, kids := range c.kids {
		left, right := of(kids[0]), of(kids[1])
		made, open := c.made(at, left, right, named, props), left.open*right.open
		if named>>at&1 == 1 {
			open = made
		}
		counts[at] = count{made, open}
	}
	return counts[len(counts)-1].open
}

// made is how many ways there are with the node at that place made true, by those of its parts. Where it leads to two ways, what these make true differs in a part that is not named, if there is one.
func (c crowd) made(at int, left, right count, named, props uint64) int {
	is := func(part int) bool { return named>>part&1 == 1 }
	both := left.made * right.made
	switch n := c.f[at]; n.Op {
	case api.FTrue:
		return 1
	case api.FFalse:
		return 0
	case api.FProp:
		return int(props >> n.N & 1)
	case api.FNot:
		return 1 - left.made
	case api.FNext:
		return left.open
	case api.FOr, api.FUntil:
		if !is(c.kids[at][0]) || !is(c.kids[at][1]) {
			return left.made*right.open + left.open*right.made
		}
	case api.FRel:
		if !is(c.kids[at][0]) {
			return both + left.open*right.made
		}
	}
	return both
}
