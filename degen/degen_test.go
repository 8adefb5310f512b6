package degen_test

import (
	"math"
	"slices"
	"testing"

	"lariat/api"
	"lariat/auto"
	"lariat/degen"
	"lariat/ltext"
	"lariat/nnf"
	"lariat/tableau"
	"lariat/word"
)

// node: of these propositions and sets, with those behind it.
func node(need, ban, in uint64, to ...int) api.ANode {
	return api.ANode{Need: need, Ban: ban, In: in, To: to}
}

// of: an automaton that begins with node 0.
func of(sets int, nodes ...api.ANode) api.Auto {
	return api.Auto{Sets: sets, Init: []int{0}, Nodes: nodes}
}

// clone: an automaton of new memory.
func clone(a api.Auto) api.Auto {
	out := api.Auto{Sets: a.Sets, Init: slices.Clone(a.Init)}
	for _, n := range a.Nodes {
		n.To = slices.Clone(n.To)
		out.Nodes = append(out.Nodes, n)
	}
	return out
}

// chance: numbers that look like chance, the same each time.
type chance uint64

func (c *chance) below(n int) int {
	*c = *c*6364136223846793005 + 1442695040888963407
	return int(*c>>33) % n
}

// grown: an automaton of so many nodes; some numbers of its lists stand there twice.
func grown(c *chance, size, sets, edges int) api.Auto {
	a := api.Auto{Sets: sets}
	for range c.below(4) {
		a.Init = append(a.Init, c.below(size))
	}
	for range size {
		n := node(uint64(c.below(4)&c.below(4)), uint64(c.below(4)&c.below(4)), uint64(c.below(1<<sets)))
		for range c.below(edges + 1) {
			n.To = append(n.To, c.below(size))
		}
		a.Nodes = append(a.Nodes, n)
	}
	return a
}

// small: all automata of that many sets and at most two nodes, of one proposition.
func small(sets int, tell func(a api.Auto)) {
	lists := [][]int{nil, {0}, {1}, {0, 1}, {1, 0}}
	var nodes []api.ANode
	for i := range 4 {
		for in := range uint64(1) << sets {
			for _, to := range lists {
				nodes = append(nodes, node(uint64(i&1), uint64(i>>1), in, to...))
			}
		}
	}
	for _, n := range nodes {
		if !slices.Contains(n.To, 1) {
			tell(of(sets, n))
		}
		for _, m := range nodes {
			for _, init := range lists {
				tell(api.Auto{Sets: sets, Init: init, Nodes: []api.ANode{n, m}})
			}
		}
	}
}

// words: all words of at most so many places over the sets below those.
func words(most int, below uint64) []api.Word {
	var l []api.Word
	var fill func(sets []uint64)
	fill = func(sets []uint64) {
		for stem := range sets {
			l = append(l, api.Word{Stem: slices.Clone(sets[:stem]), Loop: slices.Clone(sets[stem:])})
		}
		for set := range below {
			if len(sets) < most {
				fill(append(slices.Clone(sets), set))
			}
		}
	}
	fill(nil)
	return l
}

// wanted: what One(a) is by the chapter's words, of an a that may be: the pairs that are found stand in a list, which is gone through from its beginning on.
func wanted(a api.Auto) (api.Auto, api.Errno) {
	var found [][2]int
	numbers := func(nodes []int, turn int) []int {
		var l []int
		for _, q := range nodes {
			at := slices.Index(found, [2]int{q, turn})
			if at < 0 {
				at = len(found)
				found = append(found, [2]int{q, turn})
			}
			if !slices.Contains(l, at) {
				l = append(l, at)
			}
		}
		return l
	}
	one := api.Auto{Sets: 1, Init: numbers(a.Init, 0)}
	for at := 0; at < len(found); at++ {
		q, t := found[at][0], found[at][1]
		n, turn := a.Nodes[q], t
		of := func(set int) bool { return n.In&(1<<set) != 0 }
		if a.Sets > 0 && of(t) {
			turn = (t + 1) % a.Sets
		}
		in := uint64(0)
		if a.Sets == 0 || t == 0 && of(0) {
			in = 1
		}
		one.Nodes = append(one.Nodes, node(n.Need, n.Ban, in, numbers(n.To, turn)...))
	}
	if len(found) > 256 {
		return api.Auto{}, api.ErrMany
	}
	return one, api.OK
}

// reached: are all nodes of a reached?
func reached(a api.Auto) bool {
	met := make([]bool, len(a.Nodes))
	for left := slices.Clone(a.Init); len(left) > 0; left = left[1:] {
		if q := left[0]; !met[q] {
			met[q] = true
			left = append(left, a.Nodes[q].To...)
		}
	}
	return !slices.Contains(met, false)
}

// check: One(a) is what the chapter's words say, and what follows of them (P31.2 of the words of l, P31.3).
func check(t *testing.T, a api.Auto, l []api.Word) (api.Auto, api.Errno) {
	t.Helper()
	before := clone(a)
	one, why := degen.One(a)
	if want, whyWant := wanted(a); why != whyWant || !auto.Same(one, want) {
		t.Fatalf("One(%v) = %v, %v, not %v, %v", a, one, why, want, whyWant)
	}
	if !auto.Same(a, before) {
		t.Fatalf("%v is %v now", before, a)
	}
	if why != api.OK {
		return one, why
	}
	if auto.Check(one) != api.OK || one.Sets != 1 || !reached(one) || len(one.Nodes) > len(a.Nodes)*max(1, a.Sets) {
		t.Fatalf("One(%v) = %v", a, one)
	}
	if auto.Empty(one) != auto.Empty(a) {
		t.Fatalf("One(%v) = %v: empty %v", a, one, auto.Empty(one))
	}
	for _, w := range l {
		if auto.Takes(one, w) != auto.Takes(a, w) {
			t.Fatalf("%v takes %v: %v; One, %v, does not say so", a, w, auto.Takes(a, w), one)
		}
	}
	return one, why
}

// P31.1
func TestTold(t *testing.T) {
	l := words(4, 2)
	for i, x := range [][2]api.Auto{
		// The chapter's example.
		{of(2, node(0, 0, 3, 0)), of(1, node(0, 0, 1, 1), node(0, 0, 0, 0))},
		// No sets: all nodes that are reached are of the one set.
		{{}, {Sets: 1}}, {of(0, node(1, 2, 0)), of(1, node(1, 2, 1))}, {of(0, node(1, 0, 0, 2), node(0, 0, 0, 0), node(0, 1, 0, 0, 2)), of(1, node(1, 0, 1, 1), node(0, 1, 1, 0, 1))},
		// One set: the turn is always 0.
		{of(1, node(1, 0, 1, 1, 0), node(0, 1, 0, 0)), of(1, node(1, 0, 1, 1, 0), node(0, 1, 0, 0))},
		{{Sets: 1, Init: []int{1}, Nodes: []api.ANode{node(1, 0, 1, 0), node(2, 0, 0, 1, 0)}}, of(1, node(2, 0, 0, 0, 1), node(1, 0, 1, 1))},
		// Nothing is reached.
		{{Sets: 16}, {Sets: 1}}, {{Sets: 2, Nodes: []api.ANode{node(0, 0, 3, 0)}}, {Sets: 1}},
		// Nodes are numbered by where they are found, not by what they were; what is there again is left out.
		{{Init: []int{2, 0, 2, 0}, Nodes: []api.ANode{node(1, 0, 0, 1, 0, 1, 2), node(2, 0, 0, 1, 1), node(4, 0, 0, 3, 3, 2, 3), node(8, 0, 0, 1, 3, 1)}},
			{Sets: 1, Init: []int{0, 1}, Nodes: []api.ANode{node(4, 0, 1, 2, 0), node(1, 0, 1, 3, 1, 0), node(8, 0, 1, 3, 2), node(2, 0, 1, 3)}}},
		// A node that can't read, and one that leads nowhere, stay.
		{of(1, node(3, 5, 1, 1), node(0, 0, 0)), of(1, node(3, 5, 1, 1), node(0, 0, 0))},
		// The turn goes on behind a node of the set whose turn it is, by one, and not behind others.
		{of(2, node(1, 0, 2, 1), node(2, 0, 1, 0)), of(1, node(1, 0, 0, 1), node(2, 0, 1, 2), node(1, 0, 0, 1))},
		{of(3, node(0, 0, 4, 0)), of(1, node(0, 0, 0, 0))}, {of(3, node(0, 0, 1, 0)), of(1, node(0, 0, 1, 1), node(0, 0, 0, 1))}, {of(3, node(0, 0, 3, 0)), of(1, node(0, 0, 1, 1), node(0, 0, 0, 2), node(0, 0, 0, 2))},
		{of(3, node(0, 0, 7, 0)), of(1, node(0, 0, 1, 1), node(0, 0, 0, 2), node(0, 0, 0, 0))}, {of(3, node(0, 0, 5, 0)), of(1, node(0, 0, 1, 1), node(0, 0, 0, 1))},
		// The same node with two turns.
		{{Sets: 2, Init: []int{1, 0}, Nodes: []api.ANode{node(1, 0, 1, 0, 1), node(2, 0, 2, 1, 0)}},
			{Sets: 1, Init: []int{0, 1}, Nodes: []api.ANode{node(2, 0, 0, 0, 1), node(1, 0, 1, 2, 3), node(1, 0, 0, 2, 3), node(2, 0, 0, 0, 1)}}},
	} {
		if one, why := check(t, x[0], l); why != api.OK || !auto.Same(one, x[1]) {
			t.Errorf("%d: One(%v) = %v, %v, not %v", i, x[0], one, why, x[1])
		}
	}
}

// P31.1: what is refused, and why.
func TestRefused(t *testing.T) {
	loop := node(0, 0, 0, 0)
	starts := func(sets int, init ...int) api.Auto {
		return api.Auto{Sets: sets, Init: init, Nodes: []api.ANode{loop, loop}}
	}
	many := of(0, slices.Repeat([]api.ANode{loop}, 257)...)
	below := clone(many)
	below.Sets = -1
	far := clone(pairs(17, 16)) // too many pairs, and what may not be
	far.Nodes[16].To = append(far.Nodes[16].To, 17)
	strange := clone(pairs(17, 16))
	strange.Nodes[16].In = 1 << 16
	for i, x := range []struct {
		a   api.Auto
		why api.Errno
	}{
		{many, api.ErrMany}, {below, api.ErrMany}, {starts(17, 0), api.ErrMany}, {starts(math.MaxInt, 2), api.ErrMany}, {starts(64, 0), api.ErrMany}, {api.Auto{Sets: 17}, api.ErrMany},
		{starts(-1, 0), api.ErrRange}, {starts(math.MinInt), api.ErrRange}, {api.Auto{Sets: -1}, api.ErrRange}, {starts(0, 2), api.ErrRange}, {starts(0, 0, -1), api.ErrRange}, {starts(2, math.MaxInt), api.ErrRange}, {api.Auto{Init: []int{0}}, api.ErrRange},
		{of(0, node(0, 0, 1, 0)), api.ErrForm}, {of(1, loop, node(0, 0, 2)), api.ErrForm}, {of(16, node(0, 0, 1<<63, 0)), api.ErrForm},
		{of(0, node(0, 0, 0, 1)), api.ErrRange}, {of(0, loop, node(0, 0, 0, 0, 1, -1)), api.ErrRange}, {of(0, node(0, 0, 0, math.MinInt)), api.ErrRange}, {of(0, node(0, 0, 1, 1)), api.ErrRange}, {of(0, node(0, 0, 1), node(0, 0, 0, 2)), api.ErrForm},
		{far, api.ErrRange}, {strange, api.ErrForm},
	} {
		one, why := degen.One(x.a)
		if why != x.why || one.Sets != 0 || one.Init != nil || one.Nodes != nil {
			t.Errorf("%d: %v, %v, not %v", i, one, why, x.why)
		}
	}
}

// pairs: an automaton of so many nodes and sets, all of which lead to all and are of all sets: each is reached with each turn.
func pairs(size, sets int) api.Auto {
	a := api.Auto{Sets: sets}
	for q := range size {
		a.Init = append(a.Init, q)
	}
	for q := range size {
		a.Nodes = append(a.Nodes, node(uint64(q), 0, 1<<sets-1, a.Init...))
	}
	return a
}

// P31.1, P31.3: the greatest automata that may come of it, and those that are greater by one node, or by far.
func TestMany(t *testing.T) {
	with := func(a api.Auto, change func(a *api.Auto)) api.Auto {
		a = clone(a)
		change(&a)
		return a
	}
	more := func(to ...int) func(a *api.Auto) { // one node more, which is not reached
		return func(a *api.Auto) { a.Nodes = append(a.Nodes, node(0, 0, 0, to...)) }
	}
	first := func(to ...int) func(a *api.Auto) { // one node more, which is in Init
		return func(a *api.Auto) {
			a.Init = append(a.Init, len(a.Nodes))
			more(to...)(a)
		}
	}
	for i, x := range []struct {
		a     api.Auto
		nodes int // 0: too many
	}{
		{pairs(16, 16), 256}, {pairs(17, 16), 0}, {pairs(17, 15), 255}, {pairs(18, 15), 0}, {pairs(256, 1), 256}, {pairs(256, 0), 256}, {pairs(128, 2), 256}, {pairs(129, 2), 0}, {pairs(256, 16), 0}, {pairs(85, 3), 255}, {pairs(86, 3), 0},
		{with(pairs(16, 16), more()), 256}, {with(pairs(16, 16), more(0, 16)), 256}, {with(pairs(16, 16), first()), 0}, {with(pairs(17, 15), first()), 256}, {with(pairs(17, 15), first(17)), 256}, {with(with(pairs(17, 15), first()), first()), 0},
		// The 257th pair is found last.
		{with(pairs(16, 16), func(a *api.Auto) {
			a.Nodes = append(a.Nodes, node(0, 0, 0))
			for q := range 16 {
				a.Nodes[q].To = a.Nodes[q].To[:q+1]
			}
			a.Nodes[15].To = append(a.Nodes[15].To, 16)
		}), 0},
		// Of 256 nodes none is of the set whose turn it is first, or one that leads nowhere.
		{with(pairs(256, 16), func(a *api.Auto) {
			for q := range a.Nodes {
				a.Nodes[q].In &^= 1
			}
		}), 256},
		{with(pairs(256, 16), func(a *api.Auto) {
			for q := range a.Nodes {
				a.Nodes[q].In &^= 1
			}
			a.Nodes[255] = node(0, 0, 1<<16-1)
		}), 256},
		{with(pairs(256, 16), func(a *api.Auto) {
			for q := range a.Nodes {
				a.Nodes[q].In &^= 1
			}
			a.Nodes[255] = node(0, 0, 1<<16-1, 255)
		}), 0},
	} {
		one, why := check(t, x.a, nil)
		if x.nodes > 0 && (why != api.OK || len(one.Nodes) != x.nodes) || x.nodes == 0 && why != api.ErrMany {
			t.Errorf("%d: %v, %d nodes, not %d", i, why, len(one.Nodes), x.nodes)
		}
	}
}

// P31.1, G7: lists in which nodes stand again and again.
func TestLong(t *testing.T) {
	a := pairs(16, 16)
	want, _ := check(t, a, nil)
	for q := range a.Nodes {
		a.Nodes[q].To = slices.Repeat(a.Nodes[q].To, 4000)
	}
	a.Init = slices.Repeat(a.Init, 20000)
	if one, why := degen.One(a); why != api.OK || !auto.Same(one, want) {
		t.Error(why, len(one.Nodes))
	}
}

// P31.1 to P31.3: small automata, all of them.
func TestSmall(t *testing.T) {
	l := words(3, 2)
	small(0, func(a api.Auto) { check(t, a, l) })
	small(1, func(a api.Auto) { check(t, a, l) })
	at := 0
	small(2, func(a api.Auto) {
		if at++; at%7 == 0 {
			check(t, a, l)
		}
	})
}

// P31.1 to P31.3: greater automata.
func TestGrown(t *testing.T) {
	c, l, empty := chance(31), words(4, 2), 0
	for i := range 4000 {
		a := grown(&c, 1+i%7, c.below(5), 1+c.below(4))
		check(t, a, []api.Word{l[c.below(len(l))], l[c.below(len(l))], l[c.below(len(l))], {Stem: []uint64{3}, Loop: []uint64{1, 2, 3, 0}}, {Loop: []uint64{2, 1}}})
		if auto.Empty(a) {
			empty++
		}
	}
	if empty < 500 || empty > 3500 {
		t.Error(empty)
	}
	told := map[api.Errno]int{}
	for range 300 {
		_, why := check(t, grown(&c, 10+c.below(120), 1+c.below(16), 5), l[:20])
		told[why]++
	}
	if told[api.OK] < 50 || told[api.ErrMany] < 50 {
		t.Error(told)
	}
}

// P31.2, G5: of formulas' automata.
func TestForms(t *testing.T) {
	l := words(4, 4)
	for _, text := range []string{"true", "false", "p", "X p", "p U q", "p R q", "F p", "G p", "G F p", "F G p", "G F p && G F q", "G F p => G F q", "F p && F q && X F (p && q)", "G (p => F q)", "(p U q) U p", "G F p && G F q && G F (p && q) && G F X !p"} {
		f, _, why := ltext.Parse(text, []string{"p", "q"})
		if why != api.OK {
			t.Fatal(text, why)
		}
		a, why := tableau.Of(nnf.Of(f))
		if why != api.OK {
			t.Fatal(text, why)
		}
		one, why := check(t, a, nil)
		if why != api.OK {
			t.Fatal(text, why)
		}
		for _, w := range l {
			if auto.Takes(one, w) != word.Holds(f, w) {
				t.Fatalf("%s over %v: %v", text, w, word.Holds(f, w))
			}
		}
	}
}

// What is answered is new, and what stands behind a list's length plays no part.
func TestShared(t *testing.T) {
	lists := func(a api.Auto) [][]int {
		l := [][]int{a.Init}
		for _, n := range a.Nodes {
			l = append(l, n.To)
		}
		return l
	}
	memory := []int{1, 0, 77, 0, 1, -5, 1, 1, 99}
	before := slices.Clone(memory)
	nodes := []api.ANode{node(1, 0, 1, memory[3:5]...), node(2, 0, 2, memory[6:7]...), node(0, 0, 1<<40, 12)}
	a := api.Auto{Sets: 2, Init: memory[:2], Nodes: nodes[:2]}
	want, _ := wanted(a)
	for i := range lists(want) {
		one, why := degen.One(a)
		if why != api.OK || !auto.Same(one, want) {
			t.Fatal(one, why, want)
		}
		l := lists(one)[i]
		_ = append(l, 77, 77, 77, 77, 77, 77)
		for k := range l {
			l[k] = 77
		}
		for k, own := range lists(one) {
			if k != i && !slices.Equal(own, lists(want)[k]) {
				t.Fatal(i, k, one, want)
			}
		}
	}
	if !slices.Equal(memory, before) {
		t.Fatal(memory)
	}
}
