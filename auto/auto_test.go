package auto_test

import (
	"math"
	"slices"
	"testing"

	"lariat/api"
	"lariat/auto"
	"lariat/word"
)

// node: of these propositions and sets, with those behind it.
func node(need, ban, in uint64, to ...int) api.ANode {
	return api.ANode{Need: need, Ban: ban, In: in, To: to}
}

// of: an automaton that begins with node 0.
func of(sets int, nodes ...api.ANode) api.Auto {
	return api.Auto{Sets: sets, Init: []int{0}, Nodes: nodes}
}

// over: a word whose first places are its stem.
func over(stem int, sets ...uint64) api.Word {
	return api.Word{Stem: sets[:stem], Loop: sets[stem:]}
}

// clone: an automaton of new memory.
func clone(a api.Auto) api.Auto {
	out := api.Auto{Sets: a.Sets, Init: slices.Clone(a.Init)}
	for _, n := range a.Nodes {
		n.To = slices.Clone(n.To)
		out.Nodes = append(out.Nodes, n)
	}
	return out
}

// like: are both the same, list by list?
func like(a, b api.Auto) bool {
	if a.Sets != b.Sets || !slices.Equal(a.Init, b.Init) || len(a.Nodes) != len(b.Nodes) {
		return false
	}
	for q, n := range a.Nodes {
		m := b.Nodes[q]
		if n.Need != m.Need || n.Ban != m.Ban || n.In != m.In || !slices.Equal(n.To, m.To) {
			return false
		}
	}
	return true
}

// chance: numbers that look like chance, the same each time.
type chance uint64

func (c *chance) below(n int) int {
	*c = *c*6364136223846793005 + 1442695040888963407
	return int(*c>>33) % n
}

// grown: an automaton of so many nodes; some numbers of its lists stand there twice.
func grown(c *chance, size, sets, edges int) api.Auto {
	a := api.Auto{Sets: sets}
	for range c.below(3) {
		a.Init = append(a.Init, c.below(size))
	}
	for range size {
		n := node(uint64(c.below(4)&c.below(4)), uint64(c.below(4)&c.below(4)), uint64(c.below(1<<sets)))
		for range c.below(edges + 1) {
			n.To = append(n.To, c.below(size))
		}
		a.Nodes = append(a.Nodes, n)
	}
	return a
}

// some: a word of at most so many places.
func some(c *chance, places int) api.Word {
	var w api.Word
	for range c.below(places) {
		w.Stem = append(w.Stem, uint64(c.below(4)))
	}
	for range 1 + c.below(places-len(w.Stem)) {
		w.Loop = append(w.Loop, uint64(c.below(4)))
	}
	return w
}

// small: all automata of that many sets and at most two nodes, of one proposition.
func small(sets int, tell func(a api.Auto)) {
	lists := [][]int{nil, {0}, {1}, {0, 1}}
	var nodes []api.ANode
	for i := range 4 {
		for in := range uint64(1) << sets {
			for _, to := range lists {
				nodes = append(nodes, node(uint64(i&1), uint64(i>>1), in, to...))
			}
		}
	}
	for _, n := range nodes {
		if !slices.Contains(n.To, 1) {
			tell(of(sets, n))
		}
		for _, m := range nodes {
			for _, init := range lists {
				tell(api.Auto{Sets: sets, Init: init, Nodes: []api.ANode{n, m}})
			}
		}
	}
}

// words: all words of at most so many places over the sets below those.
func words(most int, below uint64) []api.Word {
	var l []api.Word
	var fill func(sets []uint64)
	fill = func(sets []uint64) {
		for stem := range sets {
			l = append(l, over(stem, slices.Clone(sets)...))
		}
		for set := range below {
			if len(sets) < most {
				fill(append(slices.Clone(sets), set))
			}
		}
	}
	fill(nil)
	return l
}

// closed: of pairs of things whether a way of one step or more leads from the first to the second.
func closed(steps [][]bool) [][]bool {
	ways := make([][]bool, len(steps))
	for i := range steps {
		ways[i] = slices.Clone(steps[i])
	}
	for k := range ways {
		for i := range ways {
			for j := range ways {
				ways[i][j] = ways[i][j] || ways[i][k] && ways[k][j]
			}
		}
	}
	return ways
}

// lasting: of each thing whether a way leads from it that goes on for ever and meets each set again and again; in tells the sets of a thing.
func lasting(ways [][]bool, sets int, in func(i int) uint64) []bool {
	out := make([]bool, len(ways))
	for x := range ways {
		met := uint64(0)
		for y := range ways {
			if ways[x][y] && ways[y][x] {
				met |= in(y)
			}
		}
		if !ways[x][x] || met != 1<<sets-1 {
			continue
		}
		for i := range ways {
			out[i] = out[i] || i == x || ways[i][x]
		}
	}
	return out
}

// taken: does a take w, by DOC's words? All places are held against all nodes.
func taken(a api.Auto, w api.Word) bool {
	sets := append(slices.Clone(w.Stem), w.Loop...)
	size := len(a.Nodes)
	reads := func(i int) bool {
		n, set := a.Nodes[i%size], sets[i/size]
		return n.Need&set == n.Need && n.Ban&set == 0
	}
	steps := make([][]bool, len(sets)*size)
	for i := range steps {
		steps[i] = make([]bool, len(steps))
		after := i/size + 1
		if after == len(sets) {
			after = len(w.Stem)
		}
		for _, q := range a.Nodes[i%size].To {
			steps[i][after*size+q] = reads(i) && reads(after*size+q)
		}
	}
	goes := lasting(closed(steps), a.Sets, func(i int) uint64 { return a.Nodes[i%size].In })
	return slices.ContainsFunc(a.Init, func(q int) bool { return goes[q] })
}

// trimmed: Trim(a) by the chapter's words.
func trimmed(a api.Auto) api.Auto {
	can := func(q int) bool { return a.Nodes[q].Need&a.Nodes[q].Ban == 0 }
	steps := make([][]bool, len(a.Nodes))
	for q, n := range a.Nodes {
		steps[q] = make([]bool, len(a.Nodes))
		for _, to := range n.To {
			steps[q][to] = can(q) && can(to)
		}
	}
	ways := closed(steps)
	goes := lasting(ways, a.Sets, func(q int) uint64 { return a.Nodes[q].In })
	use := func(q int) bool {
		return goes[q] && can(q) && slices.ContainsFunc(a.Init, func(i int) bool { return can(i) && (i == q || ways[i][q]) })
	}
	fresh := func(l []int) []int {
		var out []int
		for _, q := range l {
			ahead := 0
			for i := range q {
				if use(i) {
					ahead++
				}
			}
			if use(q) {
				out = append(out, ahead)
			}
		}
		return out
	}
	out := api.Auto{Sets: a.Sets, Init: fresh(a.Init)}
	for q, n := range a.Nodes {
		if use(q) {
			out.Nodes = append(out.Nodes, node(n.Need, n.Ban, n.In, fresh(n.To)...))
		}
	}
	return out
}

// wrong: automata that may not be, and why.
func wrong() []struct {
	a   api.Auto
	why api.Errno
} {
	loop := node(0, 0, 0, 0)
	starts := func(sets int, init ...int) api.Auto {
		return api.Auto{Sets: sets, Init: init, Nodes: []api.ANode{loop, loop}}
	}
	many := of(0, slices.Repeat([]api.ANode{loop}, 257)...)
	below := clone(many)
	below.Sets = -1
	return []struct {
		a   api.Auto
		why api.Errno
	}{
		{many, api.ErrMany}, {below, api.ErrMany}, {starts(17, 0), api.ErrMany}, {starts(math.MaxInt, 2), api.ErrMany}, {starts(64, 0), api.ErrMany}, {api.Auto{Sets: 17}, api.ErrMany},
		{starts(-1, 0), api.ErrRange}, {starts(math.MinInt), api.ErrRange}, {api.Auto{Sets: -1}, api.ErrRange}, {of(-1, node(0, 0, 1, 0)), api.ErrRange},
		{starts(0, 2), api.ErrRange}, {starts(0, 0, -1), api.ErrRange}, {starts(16, 0, 1, math.MaxInt), api.ErrRange}, {starts(1, math.MinInt), api.ErrRange}, {api.Auto{Init: []int{0}}, api.ErrRange},
		{of(0, node(0, 0, 1, 0)), api.ErrForm}, {of(1, loop, node(0, 0, 2)), api.ErrForm}, {of(16, node(0, 0, 1<<16, 0)), api.ErrForm}, {of(16, node(0, 0, 1<<63, 0)), api.ErrForm}, {of(3, node(0, 0, 8|7)), api.ErrForm},
		{of(0, node(0, 0, 0, 1)), api.ErrRange}, {of(0, loop, node(0, 0, 0, 0, 1, -1)), api.ErrRange}, {of(0, node(0, 0, 0, math.MinInt)), api.ErrRange}, {of(0, node(0, 0, 0, math.MaxInt)), api.ErrRange},
		{of(0, node(0, 0, 1, 1)), api.ErrRange}, {of(0, node(0, 0, 1), node(0, 0, 0, 2)), api.ErrForm}, {of(0, node(0, 0, 0, 2), node(0, 0, 1)), api.ErrRange},
		{api.Auto{Init: []int{1}, Nodes: []api.ANode{node(0, 0, 1, 7)}}, api.ErrRange},
	}
}

// P30.1
func TestCheck(t *testing.T) {
	for i, x := range wrong() {
		if why := auto.Check(x.a); why != x.why {
			t.Errorf("%d: %v, not %v", i, why, x.why)
		}
	}
	full := of(16, slices.Repeat([]api.ANode{node(math.MaxUint64, math.MaxUint64, 1<<16-1, 0, 255, 255)}, 256)...)
	for i, a := range []api.Auto{{}, {Sets: 16}, of(0, node(0, 0, 0)), of(0, node(0, 0, 0, 0, 0)), of(1, node(3, 5, 1, 0)), {Nodes: []api.ANode{{}}}, {Init: []int{1, 0, 1}, Nodes: []api.ANode{{}, {}}}, full} {
		if why := auto.Check(a); why != api.OK {
			t.Errorf("%d: %v", i, why)
		}
	}
}

// P30.2 to P30.4: of what may not be.
func TestWrong(t *testing.T) {
	for i, x := range wrong() {
		w, is := auto.Witness(x.a)
		if auto.Takes(x.a, over(0, 0)) || !like(auto.Trim(x.a), api.Auto{}) || !auto.Empty(x.a) || is || w.Stem != nil || w.Loop != nil {
			t.Error(i)
		}
	}
	whole := of(0, node(0, 0, 0, 0))
	long := make([]uint64, api.MaxNodes+1)
	for i, w := range []api.Word{{}, {Stem: []uint64{0}}, over(0, long...), over(1, long...), over(api.MaxNodes, long...), over(api.MaxNodes+1, long...)} {
		if auto.Takes(whole, w) {
			t.Error(i)
		}
	}
	for _, stem := range []int{0, 1, api.MaxNodes - 1} {
		if !auto.Takes(whole, over(stem, long[1:]...)) {
			t.Error(stem)
		}
	}
}

// P30.2
func TestTakesTold(t *testing.T) {
	one := of(1, node(1, 0, 1, 0))
	until := api.Auto{Sets: 1, Init: []int{0, 1}, Nodes: []api.ANode{node(2, 0, 1, 2), node(1, 0, 0, 0, 1), node(0, 0, 1, 2)}} // p until q
	both := of(2, node(1, 0, 1, 0, 1), node(0, 1, 2, 1, 0))                                                                    // p first; again and again p, and again and again not p
	high := of(1, node(1<<63, 1, 1, 0))
	for i, x := range []struct {
		a    api.Auto
		w    api.Word
		want bool
	}{
		{one, over(0, 1), true}, {one, over(1, 3, 1, 5), true}, {one, over(0, 1, 0), false}, {one, over(1, 0, 1), false}, {one, over(0, 0), false},
		{until, over(0, 2), true}, {until, over(2, 1, 1, 2, 0), true}, {until, over(0, 1), false}, {until, over(1, 1, 0), false}, {until, over(0, 0, 2), false}, {until, over(0, 1, 1, 2), true}, {until, over(1, 3, 0), true},
		{both, over(0, 1, 0), true}, {both, over(0, 1), false}, {both, over(1, 1, 0), false}, {both, over(0, 1, 1, 0, 0, 0), true}, {both, over(3, 1, 0, 0, 1), false}, {both, over(0, 0, 1), false},
		{high, over(0, 1<<63), true}, {high, over(0, 1<<63|1), false}, {high, over(0, 1<<62), false}, {high, over(0, math.MaxUint64&^1), true},
		{of(0, node(0, 0, 0, 0)), over(0, 9), true}, {of(0, node(0, 0, 0)), over(0, 9), false}, {of(1, node(0, 0, 0, 0)), over(0, 9), false}, {of(0, node(1, 1, 0, 0)), over(0, 1), false}, {of(0, node(1, 1, 0, 0)), over(0, 0), false},
		{of(0, node(0, 0, 0, 1), node(0, 0, 0)), over(0, 0), false}, {of(0, node(0, 0, 0, 1), node(0, 0, 0, 1)), over(0, 0), true}, {api.Auto{Nodes: []api.ANode{node(0, 0, 0, 0)}}, over(0, 0), false}, {api.Auto{}, over(0, 0), false},
		{of(1, node(0, 0, 1, 1), node(0, 0, 0, 1)), over(0, 0), false}, {of(1, node(0, 0, 0, 1), node(0, 0, 1, 0)), over(0, 0), true}, {of(1, node(0, 0, 0, 1), node(0, 0, 1, 0)), over(0, 0, 0, 0), true},
		{of(2, node(0, 0, 1, 0, 1), node(0, 0, 2, 1)), over(0, 0), false}, {of(2, node(0, 0, 1, 0, 1), node(0, 0, 2, 0)), over(0, 0), true}, {of(2, node(0, 0, 1, 0, 1), node(1, 0, 2, 0)), over(0, 0, 1), true}, {of(2, node(0, 0, 1, 0, 1), node(1, 0, 2, 0)), over(0, 1, 0, 0), true},
		{of(2, node(0, 1, 1, 0, 1), node(1, 0, 2, 0)), over(0, 1, 0, 0), false},
	} {
		if auto.Takes(x.a, x.w) != x.want {
			t.Errorf("%d: Takes(%v, %v) is not %v", i, x.a, x.w, x.want)
		}
	}
}

// check: what is told of a is what DOC's and the chapter's words say, and what follows of them (P30.5, P30.6).
func check(t *testing.T, a api.Auto, l []api.Word) {
	t.Helper()
	trim := auto.Trim(a)
	if want := trimmed(a); !like(trim, want) || auto.Check(trim) != api.OK {
		t.Fatalf("Trim(%v) = %v, not %v", a, trim, want)
	}
	if again := auto.Trim(trim); !like(again, trim) || len(trim.Nodes) > len(a.Nodes) {
		t.Fatalf("Trim(%v) = %v, again %v", a, trim, again)
	}
	empty := len(trim.Init) == 0
	w, is := auto.Witness(a)
	if auto.Empty(a) != empty || is == empty || is && (word.Check(w) != api.OK || !taken(a, w)) || !is && (w.Stem != nil || w.Loop != nil) {
		t.Fatalf("%v: Empty %v, Witness %v, %v", a, auto.Empty(a), w, is)
	}
	for _, w := range l {
		want := taken(a, w)
		if auto.Takes(a, w) != want || auto.Takes(trim, w) != want || want && empty {
			t.Fatalf("Takes(%v, %v) is not %v", a, w, want)
		}
	}
}

// P30.2 to P30.6: all small automata.
func TestSmall(t *testing.T) {
	l := words(3, 2)
	small(0, func(a api.Auto) { check(t, a, l) })
	small(1, func(a api.Auto) { check(t, a, l) })
	at := 0
	small(2, func(a api.Auto) {
		if at++; at%5 == 0 {
			check(t, a, l[:10])
		}
	})
	// Of two nodes and one set, one of the words of three places is taken, if any is.
	small(1, func(a api.Auto) {
		if auto.Empty(a) == slices.ContainsFunc(l, func(w api.Word) bool { return auto.Takes(a, w) }) {
			t.Fatal(a)
		}
	})
}

// P30.2 to P30.6: greater automata.
func TestGrown(t *testing.T) {
	c := chance(30)
	empty := 0
	for i := range 6000 {
		a := grown(&c, 1+i%7, c.below(4), 1+c.below(4))
		check(t, a, []api.Word{some(&c, 6), some(&c, 6), some(&c, 3)})
		if auto.Empty(a) {
			empty++
		}
	}
	if empty < 1000 || empty > 5000 {
		t.Error(empty)
	}
}

// P30.3
func TestTrimTold(t *testing.T) {
	for i, x := range [][2]api.Auto{
		{{}, {}}, {{Sets: 3}, {Sets: 3}},
		{of(16, node(1, 2, 1<<16-1, 0)), of(16, node(1, 2, 1<<16-1, 0))},
		{of(2, node(0, 0, 1, 0)), {Sets: 2}}, {of(0, node(4, 4, 0, 0)), {}}, {{Nodes: []api.ANode{node(0, 0, 0, 0)}}, {}},
		// What is there twice stays so; the order does.
		{{Init: []int{2, 0, 2, 1}, Nodes: []api.ANode{node(0, 0, 0, 2, 1, 0, 2), node(0, 0, 0), node(1, 0, 0, 2, 0, 1, 0)}}, {Init: []int{1, 0, 1}, Nodes: []api.ANode{node(0, 0, 0, 1, 0, 1), node(1, 0, 0, 1, 0, 0)}}},
		// 0 leads to 1, which no way leads on from, and to 2, which can't read; 3 is not reached, as 2 can't read; 4 stays out of reach.
		{of(1, node(0, 0, 0, 1, 2, 0, 5), node(0, 0, 1), node(3, 1, 1, 3), node(0, 0, 1, 3), node(0, 0, 1, 4, 0), node(0, 2, 1, 5)), of(1, node(0, 0, 0, 0, 1), node(0, 2, 1, 1))},
		// Sets that are met once alone are not enough.
		{of(2, node(0, 0, 1, 0, 1), node(0, 0, 2, 1, 2), node(0, 0, 1, 3), node(0, 0, 2, 2)), of(2, node(0, 0, 1, 0, 1), node(0, 0, 2, 1, 2), node(0, 0, 1, 3), node(0, 0, 2, 2))},
		{of(2, node(0, 0, 1, 0, 1), node(0, 0, 2, 1)), {Sets: 2}},
		{{Sets: 1, Init: []int{1, 0}, Nodes: []api.ANode{node(1, 1, 1, 0, 1), node(0, 0, 1, 0, 1)}}, {Sets: 1, Init: []int{0}, Nodes: []api.ANode{node(0, 0, 1, 0)}}},
	} {
		if got := auto.Trim(x[0]); !like(got, x[1]) {
			t.Errorf("%d: Trim(%v) = %v, not %v", i, x[0], got, x[1])
		}
		if w, is := auto.Witness(x[0]); auto.Empty(x[0]) != (len(x[1].Init) == 0) || is != (len(x[1].Init) > 0) || auto.Takes(x[0], w) != is {
			t.Errorf("%d: Witness(%v) = %v, %v", i, x[0], w, is)
		}
	}
}

// P30.4
func TestSame(t *testing.T) {
	a := api.Auto{Sets: 2, Init: []int{0, 1, 0}, Nodes: []api.ANode{node(1, 2, 3, 0, 1, 1), node(4, 8, 0)}}
	for i, change := range []func(b *api.Auto){
		func(b *api.Auto) { b.Sets = 3 }, func(b *api.Auto) { b.Sets = -2 }, func(b *api.Auto) { b.Init = []int{0, 0, 1} }, func(b *api.Auto) { b.Init = []int{0, 1} }, func(b *api.Auto) { b.Init = nil },
		func(b *api.Auto) { b.Nodes = b.Nodes[:1] }, func(b *api.Auto) { b.Nodes = append(b.Nodes, api.ANode{}) }, func(b *api.Auto) { b.Nodes[0], b.Nodes[1] = b.Nodes[1], b.Nodes[0] },
		func(b *api.Auto) { b.Nodes[0].Need = 3 }, func(b *api.Auto) { b.Nodes[1].Ban = 9 }, func(b *api.Auto) { b.Nodes[0].In = 2 },
		func(b *api.Auto) { b.Nodes[0].To = []int{1, 0, 1} }, func(b *api.Auto) { b.Nodes[0].To = []int{0, 1} }, func(b *api.Auto) { b.Nodes[1].To = []int{0} },
	} {
		b := clone(a)
		if !auto.Same(a, b) || !auto.Same(b, b) {
			t.Fatal(b)
		}
		change(&b)
		if auto.Same(a, b) || auto.Same(b, a) {
			t.Error(i, b)
		}
	}
	empty := api.Auto{Init: []int{}, Nodes: []api.ANode{}}
	if !auto.Same(empty, api.Auto{}) || !auto.Same(of(0, api.ANode{To: []int{}}), of(0, api.ANode{})) {
		t.Error("empty lists")
	}
	for i, x := range wrong() {
		if !auto.Same(x.a, clone(x.a)) || auto.Same(x.a, a) {
			t.Error(i)
		}
	}
}

// P30.2 to P30.4, G7: automata and words as great as may be, or nearly.
func TestGreat(t *testing.T) {
	const size = api.MaxAuto
	ring := api.Auto{Sets: api.MaxSets, Init: []int{size - 1}}
	all := api.Auto{Sets: 1}
	for q := range size {
		in := uint64(0)
		if q%api.MaxSets == 0 { // the sets are met one behind the other, against their order
			in = 1 << (api.MaxSets - 1 - q/api.MaxSets)
		}
		ring.Nodes = append(ring.Nodes, node(uint64(q), ^uint64(q), in, (q+1)%size))
		all.Init, all.Nodes = append(all.Init, q), append(all.Nodes, node(0, 0, 0))
	}
	for q := range all.Nodes {
		all.Nodes[q].To = all.Init
	}
	w, is := auto.Witness(ring)
	if !is || auto.Empty(ring) || word.Check(w) != api.OK || !auto.Takes(ring, w) || !like(auto.Trim(ring), ring) {
		t.Error("a ring")
	}
	var round []uint64
	for q := range uint64(size) {
		round = append(round, (q+size-1)%size)
	}
	if !auto.Takes(ring, over(0, round...)) || !auto.Takes(ring, over(77, append(round, round[:77]...)...)) || auto.Takes(ring, over(0, append(round, 0)...)) || !auto.Takes(ring, over(0, slices.Repeat(round, 256)...)) {
		t.Error("a round")
	}
	long := make([]uint64, 500)
	if auto.Takes(all, over(100, long...)) || !auto.Empty(all) {
		t.Error("no node is of the set")
	}
	all.Nodes[99].In, all.Nodes[99].Need = 1, 2
	if auto.Takes(all, over(100, long...)) || auto.Empty(all) || !like(auto.Trim(all), all) {
		t.Error("a node of the set that does not read")
	}
	long[499] = 3
	if !auto.Takes(all, over(100, long...)) || auto.Takes(all, over(100, append(long, 0, 1)[400:]...)) {
		t.Error("a node of the set that reads at one place")
	}
	all.Nodes[3].To = slices.Repeat(all.Nodes[3].To, 4000)
	if trim := auto.Trim(all); len(trim.Nodes[3].To) != 4000*size || !auto.Takes(all, over(100, long...)) {
		t.Error("a node that leads to others again and again")
	}
	sets := make([]uint64, api.MaxNodes)
	sets[api.MaxNodes-1] = 1
	again := of(1, node(1, 0, 1, 0, 1), node(0, 1, 0, 1, 0))
	again.Init = []int{0, 1}
	for _, stem := range []int{0, 1, api.MaxNodes / 2, api.MaxNodes - 2, api.MaxNodes - 1} {
		if !auto.Takes(again, over(stem, sets...)) || stem < api.MaxNodes-1 && auto.Takes(again, over(stem, sets[:api.MaxNodes-1]...)) {
			t.Error(stem)
		}
	}
}

// What is answered is new, what is handed in stays, and what stands behind a list's length plays no part.
func TestShared(t *testing.T) {
	numbers := []int{0, 1, 2, 1, 9, 9}
	nodes := []api.ANode{node(1, 0, 1), node(2, 0, 0), node(2, 2, 1), node(0, 0, 9, 9)}
	for q := range 3 {
		nodes[q].To = numbers[:4-q]
	}
	a := api.Auto{Sets: 1, Init: numbers[:3], Nodes: nodes[:3]}
	before := clone(a)
	want := trimmed(a)
	lists := func(a api.Auto) [][]int {
		return [][]int{a.Init, a.Nodes[0].To, a.Nodes[1].To}
	}
	for i := range lists(want) {
		trim := auto.Trim(a)
		if !like(trim, want) {
			t.Fatal(trim, want)
		}
		l := lists(trim)[i]
		_ = append(l, 77, 77, 77, 77)
		for k := range l {
			l[k] = 77
		}
		for k, own := range lists(trim) {
			if k != i && !slices.Equal(own, lists(want)[k]) {
				t.Fatal(i, k, trim)
			}
		}
		trim.Nodes[1].Need = 99
	}
	w, is := auto.Witness(a)
	if !is || !auto.Takes(a, w) {
		t.Fatal(w, is)
	}
	_ = append(w.Stem, 77, 77)
	_ = append(w.Loop, 77, 77)
	if v, _ := auto.Witness(a); !slices.Equal(v.Stem, w.Stem) || !slices.Equal(v.Loop, w.Loop) {
		t.Fatal(v, w)
	}
	for i := range w.Loop {
		w.Loop[i] = 77
	}
	if v, _ := auto.Witness(a); !auto.Takes(a, v) {
		t.Fatal(v)
	}
	sets := []uint64{1, 2, 1, 0}
	if !auto.Takes(a, api.Word{Stem: sets[:1], Loop: sets[1:3]}) || !slices.Equal(sets, []uint64{1, 2, 1, 0}) || !like(a, before) || !slices.Equal(numbers, []int{0, 1, 2, 1, 9, 9}) {
		t.Error(a, numbers, sets)
	}
}
