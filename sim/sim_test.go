package sim_test

import (
	"math"
	"slices"
	"testing"

	"lariat/api"
	"lariat/auto"
	"lariat/sim"
)

// node: of these propositions and sets, with those behind it.
func node(need, ban, in uint64, to ...int) api.ANode {
	return api.ANode{Need: need, Ban: ban, In: in, To: to}
}

// of: an automaton that begins with node 0.
func of(sets int, nodes ...api.ANode) api.Auto {
	return api.Auto{Sets: sets, Init: []int{0}, Nodes: nodes}
}

// clone: an automaton of new memory.
func clone(a api.Auto) api.Auto {
	out := api.Auto{Sets: a.Sets, Init: slices.Clone(a.Init)}
	for _, n := range a.Nodes {
		n.To = slices.Clone(n.To)
		out.Nodes = append(out.Nodes, n)
	}
	return out
}

// copied: a relation of new memory.
func copied(r [][]bool) [][]bool {
	out := make([][]bool, len(r))
	for i := range r {
		out[i] = slices.Clone(r[i])
	}
	return out
}

// equal: do both relations say the same?
func equal(r, s [][]bool) bool {
	return slices.EqualFunc(r, s, slices.Equal[[]bool])
}

// relation: what can tells of each pair.
func relation(size int, can func(x, y int) bool) [][]bool {
	r := make([][]bool, size)
	for x := range r {
		r[x] = make([]bool, size)
		for y := range r[x] {
			r[x][y] = can(x, y)
		}
	}
	return r
}

// rel: the relation that text shows, one row behind the other, an 'x' for each pair that is of it.
func rel(rows ...string) [][]bool {
	return relation(len(rows), func(x, y int) bool { return rows[x][y] == 'x' })
}

// chance: numbers that look like chance, the same each time.
type chance uint64

func (c *chance) below(n int) int {
	*c = *c*6364136223846793005 + 1442695040888963407
	return int(*c>>33) % n
}

// grown: an automaton of so many nodes, most of which ask for little; some numbers of its lists stand there twice.
func grown(c *chance, size, sets, edges int) api.Auto {
	a := api.Auto{Sets: sets}
	for range c.below(3) {
		a.Init = append(a.Init, c.below(size))
	}
	rare := func(n int) uint64 { return uint64(c.below(n) & c.below(n)) }
	for range size {
		n := node(rare(4)&rare(4), rare(4)&rare(4), rare(1<<sets))
		for range c.below(edges + 1) {
			n.To = append(n.To, c.below(size))
		}
		a.Nodes = append(a.Nodes, n)
	}
	return a
}

// small: all automata of that many sets and nodes, of one proposition.
func small(sets, size int, tell func(a api.Auto)) {
	a := api.Auto{Sets: sets, Nodes: make([]api.ANode, size)}
	var fill func(at int)
	fill = func(at int) {
		if at == size {
			tell(a)
			return
		}
		for i := range 4 {
			for in := range uint64(1) << sets {
				for to := range 1 << size {
					n := node(uint64(i&1), uint64(i>>1), in)
					for q := range size {
						if to>>q&1 == 1 {
							n.To = append(n.To, q)
						}
					}
					a.Nodes[at] = n
					fill(at + 1)
				}
			}
		}
	}
	fill(0)
}

// may: may the pair x, y be in r, by the chapter's words?
func may(a api.Auto, r [][]bool, x, y int) bool {
	n, m := a.Nodes[x], a.Nodes[y]
	for bit := range 64 {
		has := func(set uint64) bool { return set&(1<<bit) != 0 }
		if has(m.Need) && !has(n.Need) || has(m.Ban) && !has(n.Ban) || bit < a.Sets && has(n.In) && !has(m.In) {
			return false
		}
	}
	for _, to := range n.To {
		if !slices.ContainsFunc(m.To, func(other int) bool { return r[to][other] }) {
			return false
		}
	}
	return true
}

// isOne: is r, a relation over a, a simulation, by the chapter's words?
func isOne(a api.Auto, r [][]bool) bool {
	for x := range r {
		for y := range r {
			if r[x][y] && !may(a, r, x, y) {
				return false
			}
		}
	}
	return true
}

// greatest: of all pairs those are struck out, again and again, that may not be.
func greatest(a api.Auto) [][]bool {
	r := relation(len(a.Nodes), func(x, y int) bool { return true })
	for struck := true; struck; {
		struck = false
		for x := range r {
			for y := range r {
				if r[x][y] && !may(a, r, x, y) {
					r[x][y], struck = false, true
				}
			}
		}
	}
	return r
}

// relations: all relations over so many nodes.
func relations(size int) [][][]bool {
	var l [][][]bool
	for n := range 1 << (size * size) {
		l = append(l, relation(size, func(x, y int) bool { return n>>(x*size+y)&1 == 1 }))
	}
	return l
}

// order: P32.3 and P32.4 of r, the answer for a.
func order(t *testing.T, a api.Auto, r [][]bool) {
	t.Helper()
	if !sim.Is(a, r) {
		t.Fatalf("%v: %v is no simulation", a, r)
	}
	for x := range r {
		if !r[x][x] {
			t.Fatalf("%v: %d can't do what it can: %v", a, x, r)
		}
		for y := range r {
			for z := range r {
				if r[x][y] && r[y][z] && !r[x][z] {
					t.Fatalf("%v: %d can do what %d can, that what %d can: %v", a, z, y, x, r)
				}
			}
		}
	}
}

// words: P32.5 of r, the answer for a, and of some words of two propositions.
func words(t *testing.T, a api.Auto, r [][]bool) {
	t.Helper()
	for _, w := range []api.Word{{Loop: []uint64{0}}, {Loop: []uint64{1}}, {Loop: []uint64{3}}, {Loop: []uint64{2, 1}}, {Stem: []uint64{1}, Loop: []uint64{0}}, {Stem: []uint64{0, 3}, Loop: []uint64{3, 1, 0}}} {
		var takes []bool
		for q := range a.Nodes {
			takes = append(takes, auto.Takes(api.Auto{Sets: a.Sets, Init: []int{q}, Nodes: a.Nodes}, w))
		}
		for x := range r {
			for y := range r {
				if r[x][y] && takes[x] && !takes[y] {
					t.Fatalf("%v: %d can do what %d can, and does not take %v", a, y, x, w)
				}
			}
		}
	}
}

// P32.1, P32.2
func TestTold(t *testing.T) {
	ring := func(to ...int) api.Auto {
		a := of(0)
		for _, q := range to {
			a.Nodes = append(a.Nodes, node(0, 0, 0, q))
		}
		return a
	}
	for i, x := range []struct {
		a    api.Auto
		want [][]bool
	}{
		// The chapter's example.
		{of(1, node(1, 0, 1, 0), node(0, 0, 1, 1)), rel("xx", ".x")},
		{api.Auto{}, nil}, {api.Auto{Sets: 16}, nil}, {of(0, node(7, 7, 0)), rel("x")}, {of(0, node(0, 0, 0), node(0, 0, 0)), rel("xx", "xx")},
		// Need, Ban, In.
		{of(0, node(1, 0, 0), node(2, 0, 0), node(3, 0, 0)), rel("x..", ".x.", "xxx")}, {of(0, node(0, 1, 0), node(0, 2, 0), node(0, 3, 0)), rel("x..", ".x.", "xxx")},
		{of(2, node(0, 0, 1), node(0, 0, 2), node(0, 0, 3), node(0, 0, 0)), rel("x.x.", ".xx.", "..x.", "xxxx")},
		{of(1, node(1, 2, 1), node(1, 0, 1), node(0, 2, 1), node(1, 2, 0)), rel("xxx.", ".x..", "..x.", "xxxx")}, {of(0, node(1<<63, 0, 0), node(0, 1<<63, 0), node(0, 0, 0)), rel("x.x", ".xx", "..x")},
		{of(16, node(0, 0, 1<<15), node(0, 0, 0)), rel("x.", "xx")}, {of(0, node(1, 1, 0), node(1, 0, 0), node(0, 1, 0)), rel("xxx", ".x.", "..x")},
		// One that leads nowhere can do less than one that leads somewhere.
		{of(0, node(0, 0, 0), node(0, 0, 0, 1), node(0, 0, 0, 0)), rel("xxx", ".x.", ".xx")}, {of(0, node(0, 0, 0, 0, 0), node(0, 0, 0, 0, 1, 1)), rel("xx", "xx")},
		// What it leads to is led to by the other one, too; by one of several, or by several.
		{of(0, node(0, 0, 0, 2), node(0, 0, 0, 2, 3), node(1, 0, 0), node(2, 0, 0)), rel("xx..", ".x..", "xxx.", "xx.x")},
		{of(0, node(0, 0, 0, 2), node(0, 0, 0, 3), node(1, 0, 0), node(0, 0, 0)), rel("xx..", ".x..", "xxxx", "xx.x")},
		{of(0, node(0, 0, 0, 2, 3), node(0, 0, 0, 4), node(1, 0, 0), node(2, 0, 0), node(0, 0, 0)), rel("xx...", ".x...", "xxx.x", "xx.xx", "xx..x")},
		// Each can do what each other one can, though they lead to others.
		{ring(1, 2, 0), rel("xxx", "xxx", "xxx")}, {ring(1, 1, 1, 2), rel("xxxx", "xxxx", "xxxx", "xxxx")},
		// What is struck out far behind is struck out here, at last.
		{of(1, node(0, 0, 0, 1), node(0, 0, 0, 2), node(0, 0, 1, 2), node(0, 0, 0, 3)), rel("xxx.", ".xx.", "..x.", "xxxx")},
		{of(0, node(1, 0, 0, 1), node(1, 0, 0, 2), node(1, 0, 0, 3), node(1, 0, 0)), rel("x...", "xx..", "xxx.", "xxxx")},
	} {
		got := sim.Direct(x.a)
		if !equal(got, x.want) || !equal(greatest(x.a), x.want) || !isOne(x.a, x.want) {
			t.Errorf("%d: Direct(%v) = %v, not %v", i, x.a, got, x.want)
		}
		order(t, x.a, got)
	}
}

// wrong: automata that may not be.
func wrong() []api.Auto {
	loop := node(0, 0, 0, 0)
	starts := func(sets int, init ...int) api.Auto {
		return api.Auto{Sets: sets, Init: init, Nodes: []api.ANode{loop, loop}}
	}
	return []api.Auto{
		of(0, slices.Repeat([]api.ANode{loop}, 257)...), starts(17, 0), starts(math.MaxInt, 0), starts(-1), starts(math.MinInt, 0), starts(0, 2), starts(0, 0, -1), starts(16, math.MaxInt),
		of(0, node(0, 0, 1, 0)), of(1, loop, node(0, 0, 2)), of(16, node(0, 0, 1<<63)), of(0, loop, node(0, 0, 0, 0, 2)), of(0, node(0, 0, 0, -1)), of(0, node(0, 0, 0, math.MaxInt)), of(0, node(0, 0, 0, math.MinInt), loop),
	}
}

// P32.1, P32.2: of what may not be.
func TestWrong(t *testing.T) {
	for i, a := range wrong() {
		size := len(a.Nodes)
		same := relation(size, func(x, y int) bool { return x == y })
		if len(sim.Direct(a)) != 0 || sim.Is(a, same) || sim.Is(a, relation(size, func(x, y int) bool { return false })) || sim.Is(a, nil) {
			t.Error(i)
		}
	}
	if sim.Is(api.Auto{Sets: -1}, nil) || sim.Is(api.Auto{Sets: 17}, nil) || sim.Is(api.Auto{Init: []int{0}}, nil) {
		t.Error("no nodes")
	}
}

// P32.2: what is no relation over the automaton.
func TestRelation(t *testing.T) {
	a := of(0, node(0, 0, 0, 1), node(0, 0, 0, 0))
	for i, r := range [][][]bool{
		nil, {}, {{}, {}}, {nil, nil}, {{true, true}}, {{true, true}, nil}, {nil, {true, true}}, {{false, false}, {false}}, {{false}, {false, false}}, {{true, false}, {false, true, false}}, {{false, false, false}, {false, false}},
		{{true, false}, {false, true}, {false, false}}, {{false, false}, {false, false}, nil}, {{true}, {true}}, {{true, false, false}, {false, true, false}, {false, false, true}}, make([][]bool, 300),
	} {
		if sim.Is(a, r) {
			t.Error(i)
		}
	}
	for i, r := range [][][]bool{rel("..", ".."), rel("x.", ".x"), rel("xx", "xx"), rel(".x", "x.")} {
		if !sim.Is(a, r) {
			t.Error(i)
		}
	}
	// Each of these pairs hangs on the other one.
	if sim.Is(a, rel(".x", "..")) || sim.Is(a, rel("..", "x.")) || sim.Is(a, rel("x.", "..")) || sim.Is(a, rel(".x", ".x")) {
		t.Error("half of it")
	}
	if !sim.Is(api.Auto{Sets: 3}, nil) || !sim.Is(api.Auto{}, [][]bool{}) || sim.Is(api.Auto{}, [][]bool{nil}) || sim.Is(api.Auto{}, rel("x")) {
		t.Error("no nodes")
	}
	// What a row has behind its length plays no part.
	memory := []bool{true, false, true, true, true, true}
	if r := [][]bool{memory[:2], memory[1:3]}; !sim.Is(a, r[:2]) || !equal(r, rel("x.", ".x")) || sim.Is(a, [][]bool{memory[:2:2], memory[2:4]}) {
		t.Error("behind")
	}
}

// P32.1 to P32.5: all small automata, all relations.
func TestSmall(t *testing.T) {
	for size := range 3 {
		l := relations(size)
		for sets := range 3 {
			small(sets, size, func(a api.Auto) {
				union := relation(size, func(x, y int) bool { return false })
				for _, r := range l {
					is := isOne(a, r)
					if sim.Is(a, r) != is {
						t.Fatalf("Is(%v, %v) is not %v", a, r, is)
					}
					for x := range r {
						for y := range r {
							union[x][y] = union[x][y] || is && r[x][y]
						}
					}
				}
				got := sim.Direct(a)
				if !equal(got, union) {
					t.Fatalf("Direct(%v) = %v, not %v", a, got, union)
				}
				order(t, a, got)
			})
		}
	}
	l, at := relations(3), 0
	small(1, 3, func(a api.Auto) {
		if at++; at%61 != 0 {
			return
		}
		got := sim.Direct(a)
		if !equal(got, greatest(a)) {
			t.Fatalf("Direct(%v) = %v, not %v", a, got, greatest(a))
		}
		words(t, a, got)
		for i := at % 31; i < len(l); i += 31 {
			if sim.Is(a, l[i]) != isOne(a, l[i]) {
				t.Fatalf("Is(%v, %v) is not %v", a, l[i], isOne(a, l[i]))
			}
		}
	})
}

// P32.1 to P32.5: greater automata; simulations, and what is nearly one.
func TestGrown(t *testing.T) {
	c := chance(32)
	pairs, told := 0, map[bool]int{}
	for i := range 1500 {
		size := 1 + i%11
		a := grown(&c, size, c.below(3), 1+c.below(3))
		before := clone(a)
		got := sim.Direct(a)
		want := greatest(a)
		if !equal(got, want) {
			t.Fatalf("Direct(%v) = %v, not %v", a, got, want)
		}
		order(t, a, got)
		words(t, a, got)
		for x := range size {
			for y := range size {
				r := copied(got)
				r[x][y] = !r[x][y]
				is := isOne(a, r)
				if sim.Is(a, r) != is || is && !got[x][y] {
					t.Fatalf("Is(%v, %v) is not %v", a, r, is)
				}
				told[is]++
				if x != y && got[x][y] {
					pairs++
				}
			}
		}
		r := relation(size, func(x, y int) bool { return c.below(3) == 0 && got[x][y] })
		for x := range r { // those that no other one bears are struck out, once: a few are simulations then
			for y := range r {
				r[x][y] = r[x][y] && may(a, r, x, y)
			}
		}
		was := copied(r)
		is := sim.Is(a, r)
		told[is]++
		if is != isOne(a, r) || !equal(r, was) || !auto.Same(a, before) {
			t.Fatalf("Is(%v, %v) is %v", a, r, is)
		}
	}
	if pairs < 2000 || told[true] < 2000 || told[false] < 2000 {
		t.Error(pairs, told)
	}
}

// P32.1 to P32.4, G7: automata as great as may be.
func TestGreat(t *testing.T) {
	const size = api.MaxAuto
	row := api.Auto{Sets: 1} // each leads to the next one, the last to none
	whole := api.Auto{Sets: 1}
	for q := range size {
		row.Nodes, whole.Init = append(row.Nodes, node(0, 0, 0, q+1)), append(whole.Init, q)
	}
	row.Nodes[size-1].To = nil
	for range size {
		whole.Nodes = append(whole.Nodes, node(0, 0, 0, whole.Init...))
	}
	if got := sim.Direct(row); !equal(got, relation(size, func(x, y int) bool { return y <= x })) || !sim.Is(row, got) {
		t.Error("a row")
	}
	row.Nodes[size-1] = node(0, 0, 1, size-1)
	if got := sim.Direct(row); !equal(got, relation(size, func(x, y int) bool { return x <= y })) || !sim.Is(row, got) {
		t.Error("a row that ends in the set")
	}
	back := api.Auto{Sets: 1}
	for q := range size { // the same, numbered from its end on
		back.Nodes = append(back.Nodes, node(0, 0, 0, max(q-1, 0)))
	}
	back.Nodes[0].In = 1
	if got := sim.Direct(back); !equal(got, relation(size, func(x, y int) bool { return y <= x })) || !sim.Is(back, got) {
		t.Error("a row turned about")
	}
	all := relation(size, func(x, y int) bool { return true })
	if !equal(sim.Direct(whole), all) || !sim.Is(whole, all) {
		t.Error("each to each")
	}
	whole.Nodes[200].To = slices.Repeat(whole.Nodes[200].To, 4000)
	whole.Nodes[199].In = 1
	if got := sim.Direct(whole); !equal(got, relation(size, func(x, y int) bool { return x != 199 || y == 199 })) || !sim.Is(whole, got) || sim.Is(whole, all) {
		t.Error("each to each, one of the set")
	}
	// Each leads to all that are less: pairs are struck out row by row.
	for q := range size {
		whole.Nodes[q] = node(0, 0, 0, whole.Init[:q]...)
	}
	if got := sim.Direct(whole); !equal(got, relation(size, func(x, y int) bool { return x <= y })) || !sim.Is(whole, got) {
		t.Error("each to the lesser ones")
	}
	for q := range size {
		whole.Nodes[q] = node(0, 0, 0, whole.Init[q+1:]...)
	}
	if got := sim.Direct(whole); !equal(got, relation(size, func(x, y int) bool { return y <= x })) || !sim.Is(whole, got) {
		t.Error("each to the greater ones")
	}
	c := chance(33)
	for range 20 {
		a := grown(&c, size, 2, 4)
		got := sim.Direct(a)
		if !sim.Is(a, got) || !isOne(a, got) || !equal(got, greatest(a)) {
			t.Error("grown")
		}
	}
}

// What is answered is new, row by row.
func TestShared(t *testing.T) {
	a := of(0, node(0, 0, 0, 1), node(0, 0, 0, 2), node(1, 0, 0, 0))
	want := greatest(a)
	for i := range want {
		r := sim.Direct(a)
		_ = append(r[i], false, false, false, false)
		for k := range r[i] {
			r[i][k] = !r[i][k]
		}
		for k := range r {
			if k != i && !slices.Equal(r[k], want[k]) {
				t.Fatal(i, k, r, want)
			}
		}
	}
	if !equal(sim.Direct(a), want) {
		t.Error(want)
	}
}
