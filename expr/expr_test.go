package expr_test

import (
	"cmp"
	"math"
	"math/rand"
	"slices"
	"testing"

	"lariat/api"
	"lariat/expr"
)

// told: what Kind, or Eval, tells.
type told struct {
	n   int
	why api.Errno
}

// is: it tells n.
func is(n int) told {
	return told{n, api.OK}
}

// no: it tells an error.
func no(why api.Errno) told {
	return told{0, why}
}

// of: a node; n is its N, if it has one.
func of(op int, n ...int) api.Node {
	return api.Node{Op: op, N: append(n, 0)[0]}
}

// list: an expression.
func list(l ...api.Node) []api.Node {
	return l
}

// nums: so many numbers, 0 each.
func nums(count int) []api.Node {
	return slices.Repeat(list(of(api.XNum)), count)
}

// operations: all of them that take parts of the stack but XItem, with how many.
func operations() map[int]int {
	return map[int]int{api.XNot: 1, api.XNeg: 1, api.XAdd: 2, api.XSub: 2, api.XMul: 2, api.XEq: 2, api.XNe: 2, api.XLt: 2, api.XLe: 2, api.XAnd: 2, api.XOr: 2}
}

// leaves: the operations that take no part.
func leaves() []int {
	return []int{api.XNum, api.XVar, api.XLocal, api.XSelf, api.XLen, api.XAt, api.XNone}
}

// theScope: two scalars; variables, locals and channels of each kind, such that are over a scalar, and such that are none; an own element of the second scalar.
func theScope() api.Scope {
	return api.Scope{
		Scalars: []api.Scalar{{Name: "S", Size: 2}, {Name: "T", Size: 3}},
		Vars: []api.Var{
			{Name: "n", Hi: 3}, {Name: "s", Scalar: 1}, {Name: "t", Scalar: 2},
			{Name: "n", Over: 1, Hi: 3}, {Name: "tt", Scalar: 2, Over: 2}, {Name: "st", Scalar: 1, Over: 2},
			{Scalar: 3}, {Scalar: -1}, {Over: 3}, {Over: -1}, {Scalar: math.MaxInt, Over: 1}, {Scalar: 1, Over: math.MinInt},
		},
		Chans:  []api.Chan{{Name: "c", Cap: 2, Hi: 1}, {Name: "d", Scalar: 2, Cap: 1}, {Scalar: 3}, {Scalar: -1}},
		Procs:  []api.Proc{{Name: "P", Locs: 2}, {Name: "Q", Over: 2, Locs: 12}, {Name: "R"}, {Locs: -5, Over: 9}, {Locs: 99, Over: -9}},
		Locals: []api.Var{{Name: "a", Hi: 9}, {Name: "b", Scalar: 2}, {Name: "o", Over: 1}, {Scalar: 3}, {Over: 7}, {Scalar: -1, Over: 1}},
		Self:   2,
	}
}

// theKinds: of each leaf its kind in theScope.
func theKinds() map[api.Node]told {
	none, kind, far := no(api.ErrNone), no(api.ErrKind), no(api.ErrRange)
	return map[api.Node]told{
		of(api.XNum, 0): is(0), of(api.XNum, 1): is(0), of(api.XNum, api.MaxNum): is(0), of(api.XNum, -api.MaxNum): is(0),
		of(api.XNum, api.MaxNum+1): far, of(api.XNum, -api.MaxNum-1): far, of(api.XNum, math.MaxInt): far, of(api.XNum, math.MinInt): far,
		of(api.XVar, 0): is(0), of(api.XVar, 1): is(2), of(api.XVar, 2): is(3), of(api.XVar, 3): kind, of(api.XVar, 4): kind, of(api.XVar, 5): kind,
		of(api.XVar, 6): none, of(api.XVar, 7): none, of(api.XVar, 8): none, of(api.XVar, 9): none, of(api.XVar, 10): none, of(api.XVar, 11): none,
		of(api.XVar, 12): none, of(api.XVar, -1): none, of(api.XVar, math.MaxInt): none, of(api.XVar, math.MinInt): none,
		of(api.XLocal, 0): is(0), of(api.XLocal, 1): is(3), of(api.XLocal, 2): kind, of(api.XLocal, 3): none, of(api.XLocal, 4): none, of(api.XLocal, 5): none,
		of(api.XLocal, 6): none, of(api.XLocal, -1): none, of(api.XLocal, math.MaxInt): none, of(api.XLocal, math.MinInt): none,
		of(api.XSelf): is(3), of(api.XSelf, -7): is(3), of(api.XSelf, math.MaxInt): is(3),
		of(api.XLen, 0): is(0), of(api.XLen, 1): is(0), of(api.XLen, 2): none, of(api.XLen, 3): none, of(api.XLen, 4): none, of(api.XLen, -1): none, of(api.XLen, math.MaxInt): none, of(api.XLen, math.MinInt): none,
		of(api.XAt, 0): is(0), of(api.XAt, 1): is(0), of(api.XAt, 2): none, of(api.XAt, 15): none,
		of(api.XAt, 16): is(0), of(api.XAt, 18): is(0), of(api.XAt, 27): is(0), of(api.XAt, 28): none, of(api.XAt, 31): none,
		of(api.XAt, 32): none, of(api.XAt, 33): none, of(api.XAt, 48): none, of(api.XAt, 64): is(0), of(api.XAt, 79): is(0), of(api.XAt, 80): none,
		of(api.XAt, -1): none, of(api.XAt, -15): none, of(api.XAt, -16): none, of(api.XAt, -17): none, of(api.XAt, math.MaxInt): none, of(api.XAt, math.MinInt): none,
		of(api.XNone, 0): is(2), of(api.XNone, 1): is(3), of(api.XNone, 2): none, of(api.XNone, -1): none, of(api.XNone, math.MaxInt): none, of(api.XNone, math.MinInt): none,
	}
}

// theItem: the kind of an item of variable n in theScope, of an index of that kind.
func theItem(n, index int) told {
	over, kind := map[int]int{3: 2, 4: 3, 5: 3}, map[int]int{3: 0, 4: 3, 5: 2}
	if n < 0 || n > 5 {
		return no(api.ErrNone)
	}
	if n < 3 || index != over[n] {
		return no(api.ErrKind)
	}
	return is(kind[n])
}

// theKind: the kind of what an operation makes, of parts of these kinds.
func theKind(op int, kids []int) told {
	want, makes := 0, 1
	switch op {
	case api.XNot, api.XAnd, api.XOr:
		want = 1
	case api.XNeg, api.XAdd, api.XSub, api.XMul:
		makes = 0
	case api.XEq, api.XNe:
		want = kids[0]
	}
	for _, kid := range kids {
		if kid != want {
			return no(api.ErrKind)
		}
	}
	return is(makes)
}

// theEnv: cells of variables, of which one has none, and two have numbers out of bounds, and what else there is.
func theEnv() api.Env {
	return api.Env{
		Vars:   [][]int{{3}, {1}, {0}, {2, 1}, {0, 3, 1}, {-4, 2, 5}, {}, {math.MaxInt, math.MinInt}, nil, {math.MinInt}},
		Lens:   []int{2, 1},
		Locals: []int{9, -2, api.MaxNum + 1},
		At:     [][]int{{1, 0}, {0, 1, 2, 7}, nil, make([]int, 20)},
		Self:   3,
	}
}

// theValues: of each leaf its value in theEnv.
func theValues() map[api.Node]told {
	none, far := no(api.ErrNone), no(api.ErrRange)
	return map[api.Node]told{
		of(api.XNum, 0): is(0), of(api.XNum, 1): is(1), of(api.XNum, 2): is(2), of(api.XNum, -3): is(-3), of(api.XNum, api.MaxNum): is(api.MaxNum), of(api.XNum, -api.MaxNum): is(-api.MaxNum),
		of(api.XNum, api.MaxNum+1): far, of(api.XNum, -api.MaxNum-1): far, of(api.XNum, math.MaxInt): far, of(api.XNum, math.MinInt): far,
		of(api.XVar, 0): is(3), of(api.XVar, 1): is(1), of(api.XVar, 2): is(0), of(api.XVar, 3): is(2), of(api.XVar, 5): is(-4), of(api.XVar, 6): none, of(api.XVar, 7): is(math.MaxInt), of(api.XVar, 8): none, of(api.XVar, 9): is(math.MinInt),
		of(api.XVar, 10): none, of(api.XVar, -1): none, of(api.XVar, math.MaxInt): none, of(api.XVar, math.MinInt): none,
		of(api.XLocal, 0): is(9), of(api.XLocal, 1): is(-2), of(api.XLocal, 2): is(api.MaxNum + 1), of(api.XLocal, 3): none, of(api.XLocal, -1): none, of(api.XLocal, math.MaxInt): none, of(api.XLocal, math.MinInt): none,
		of(api.XSelf): is(3), of(api.XSelf, 99): is(3), of(api.XSelf, math.MinInt): is(3),
		of(api.XLen, 0): is(2), of(api.XLen, 1): is(1), of(api.XLen, 2): none, of(api.XLen, -1): none, of(api.XLen, math.MaxInt): none, of(api.XLen, math.MinInt): none,
		of(api.XAt, 0): is(1), of(api.XAt, 1): is(0), of(api.XAt, 2): none, of(api.XAt, 15): none, of(api.XAt, 17): is(1), of(api.XAt, 18): is(2), of(api.XAt, 19): is(7), of(api.XAt, 20): none, of(api.XAt, 32): none,
		of(api.XAt, 48): is(0), of(api.XAt, 63): is(0), of(api.XAt, 64): none, of(api.XAt, -1): none, of(api.XAt, -15): none, of(api.XAt, -16): none, of(api.XAt, -17): none, of(api.XAt, math.MaxInt): none, of(api.XAt, math.MinInt): none,
		of(api.XNone, 0): is(0), of(api.XNone, 99): is(0), of(api.XNone, math.MinInt): is(0),
	}
}

// theCell: the value of an item of variable n in theEnv, of that element.
func theCell(n, element int) told {
	l := theEnv().Vars
	if n < 0 || n >= len(l) {
		return no(api.ErrNone)
	}
	for i, x := range l[n] {
		if i+1 == element {
			return is(x)
		}
	}
	return no(api.ErrRange)
}

// theValue: what an operation makes of these values.
func theValue(op int, kids []int) told {
	a, b := kids[0], kids[len(kids)-1]
	fits := func(n int) bool { return -api.MaxNum <= n && n <= api.MaxNum }
	made := func(n int) told {
		if !fits(a) || !fits(b) || !fits(n) {
			return no(api.ErrRange)
		}
		return is(n)
	}
	holds := map[int]bool{api.XNot: a == 0, api.XEq: a == b, api.XNe: a != b, api.XLt: a < b, api.XLe: a <= b, api.XAnd: a != 0 && b != 0, api.XOr: a != 0 || b != 0}
	switch op {
	case api.XNeg:
		return made(-a)
	case api.XAdd:
		return made(a + b)
	case api.XSub:
		return made(a - b)
	case api.XMul:
		return made(a * b)
	}
	if holds[op] {
		return is(1)
	}
	return is(0)
}

// takes: how many parts an operation takes; -1, if it is none.
func takes(op int) int {
	if slices.Contains(leaves(), op) {
		return 0
	}
	if op == api.XItem {
		return 1
	}
	if n, is := operations()[op]; is {
		return n
	}
	return -1
}

// tree: the parts of which a part is made, the left one first, and where it begins, if all nodes up to it find what they take: without a stack, by going back.
func tree(e []api.Node, at int) (kids []int, begin int) {
	begin = at
	for range takes(e[at].Op) {
		kids = append([]int{begin - 1}, kids...)
		_, begin = tree(e, begin-1)
	}
	return kids, begin
}

// byTree: what comes of the whole of e, if a node makes of its parts what makes says.
func byTree(e []api.Node, makes func(n api.Node, kids []int) told) told {
	if len(e) > api.MaxExpr {
		return no(api.ErrLong)
	}
	if len(e) == 0 {
		return no(api.ErrShort)
	}
	made, left := make([]int, len(e)), 0
	for at, n := range e {
		if takes(n.Op) < 0 {
			return no(api.ErrForm)
		}
		if left < takes(n.Op) {
			return no(api.ErrShort)
		}
		left += 1 - takes(n.Op)
		kids, _ := tree(e, at)
		for i, kid := range kids {
			kids[i] = made[kid]
		}
		x := makes(n, kids)
		if x.why != api.OK {
			return x
		}
		if left > api.MaxStack {
			return no(api.ErrDeep)
		}
		made[at] = x.n
	}
	if left > 1 {
		return no(api.ErrLong)
	}
	return is(made[len(e)-1])
}

// nodeOf: what a node makes, of what is told of leaves, items and operations.
func nodeOf(ofLeaf map[api.Node]told, item func(n, part int) told, operation func(op int, kids []int) told) func(n api.Node, kids []int) told {
	return func(n api.Node, kids []int) told {
		if n.Op == api.XItem {
			return item(n.N, kids[0])
		}
		if len(kids) > 0 {
			return operation(n.Op, kids)
		}
		x, known := ofLeaf[n]
		if !known {
			panic("a leaf that the table has not")
		}
		return x
	}
}

// lists: all of up to most of these nodes, one after the other, in one memory.
func lists(nodes []api.Node, most int) func(yield func([]api.Node) bool) {
	return func(yield func([]api.Node) bool) {
		var longer func(e []api.Node) bool
		longer = func(e []api.Node) bool {
			if !yield(e) {
				return false
			}
			for _, n := range nodes {
				if len(e) < most && !longer(append(e, n)) {
					return false
				}
			}
			return true
		}
		longer(make([]api.Node, 0, most))
	}
}

// known: all leaves of a table, items of each variable and of none, all operations, and some that are none.
func known(ofLeaf map[api.Node]told) []api.Node {
	var l []api.Node
	for n := range ofLeaf {
		l = append(l, n)
	}
	for n := -1; n <= 12; n++ {
		l = append(l, of(api.XItem, n))
	}
	for op := range operations() {
		l = append(l, of(op), of(op, math.MinInt))
	}
	l = append(l, of(api.XItem, math.MaxInt), of(api.XItem, math.MinInt), of(0), of(-1), of(20), of(math.MaxInt), of(math.MinInt))
	slices.SortFunc(l, func(a, b api.Node) int { return cmp.Or(cmp.Compare(a.Op, b.Op), cmp.Compare(a.N, b.N)) })
	return l
}

// few: some nodes, for longer lists.
func few() []api.Node {
	return list(
		of(0), of(api.XNum, 0), of(api.XNum, 1), of(api.XNum, api.MaxNum+1), of(api.XVar, 0), of(api.XVar, 1), of(api.XVar, 3), of(api.XVar, -1), of(api.XItem, 4), of(api.XItem, 5), of(api.XLocal, 0), of(api.XSelf), of(api.XNone, 0),
		of(api.XNot), of(api.XNeg), of(api.XAdd), of(api.XMul), of(api.XEq), of(api.XLt), of(api.XAnd),
	)
}

// sameAsByTree: a call tells of all short lists of nodes, and of long ones, what byTree tells.
func sameAsByTree(t *testing.T, call func(e []api.Node) (int, api.Errno), ofLeaf map[api.Node]told, makes func(n api.Node, kids []int) told) {
	t.Helper()
	right := 0
	one := func(e []api.Node) bool {
		n, why := call(e)
		want := byTree(e, makes)
		if got := (told{n, why}); got != want {
			t.Errorf("of %v: %v, not %v", e, got, want)
		}
		if why == api.OK {
			right++
		}
		return !t.Failed()
	}
	lists(known(ofLeaf), 2)(one)
	lists(few(), 4)(one)
	// Leaves alone ahead of each operation: more nodes than all lists could have.
	for a := range ofLeaf {
		for b := range ofLeaf {
			for op := range operations() {
				one(list(a, b, of(op)))
			}
		}
	}
	// Long ones: with few operations they grow deep, with many they fall short.
	r := rand.New(rand.NewSource(10))
	all := known(ofLeaf)
	for i := range 60000 {
		var e []api.Node
		left := 0
		for range r.Intn(api.MaxExpr + 3) {
			n := of(api.XNum, r.Intn(2))
			if r.Intn(16) == 0 {
				n = all[r.Intn(len(all))]
			} else if left > 1 && r.Intn(5) < i%5 {
				n = of([]int{api.XAdd, api.XSub, api.XMul, api.XEq, api.XLe}[r.Intn(5)])
			}
			left += 1 - takes(n.Op)
			e = append(e, n)
		}
		one(e)
	}
	if right < 1000 {
		t.Error("but so many are right:", right)
	}
}

// P10.1
func TestKind(t *testing.T) {
	s := theScope()
	sameAsByTree(t, func(e []api.Node) (int, api.Errno) { return expr.Kind(e, s) }, theKinds(), nodeOf(theKinds(), theItem, theKind))
}

// P10.2
func TestEval(t *testing.T) {
	v := theEnv()
	sameAsByTree(t, func(e []api.Node) (int, api.Errno) { return expr.Eval(e, v) }, theValues(), nodeOf(theValues(), theCell, theValue))
}

// kindIs: that is what Kind tells of e in theScope.
func kindIs(t *testing.T, want told, e ...api.Node) {
	t.Helper()
	if n, why := expr.Kind(e, theScope()); n != want.n || why != want.why {
		t.Errorf("Kind(%v) = %d, %v, not %v", e, n, why, want)
	}
}

// valueIs: that is what Eval tells of e in theEnv.
func valueIs(t *testing.T, want told, e ...api.Node) {
	t.Helper()
	if n, why := expr.Eval(e, theEnv()); n != want.n || why != want.why {
		t.Errorf("Eval(%v) = %d, %v, not %v", e, n, why, want)
	}
}

// P10.1, P10.2: the chapter's examples.
func TestExamples(t *testing.T) {
	e := list(of(api.XNum, 2), of(api.XNum, 3), of(api.XAdd), of(api.XNum, 5), of(api.XEq))
	kindIs(t, is(1), e...)
	valueIs(t, is(1), e...)
	kindIs(t, no(api.ErrKind), of(api.XNum, 1), of(api.XNot))
	valueIs(t, is(0), of(api.XNum, 1), of(api.XNot))
	kindIs(t, no(api.ErrKind), of(api.XVar, 0), of(api.XNot))
	kindIs(t, no(api.ErrShort), of(api.XAdd))
	valueIs(t, no(api.ErrShort), of(api.XAdd))
}

// P10.1: which parts may stand together.
func TestKindsOfParts(t *testing.T) {
	number, truth, s, u := list(of(api.XVar, 0)), append(nums(2), of(api.XEq)), list(of(api.XVar, 1)), list(of(api.XLocal, 1))
	parts := [][]api.Node{number, truth, s, u}
	for a, left := range parts {
		for b, right := range parts {
			for op, want := range map[int]bool{
				api.XAdd: a == 0 && b == 0, api.XSub: a == 0 && b == 0, api.XMul: a == 0 && b == 0, api.XLt: a == 0 && b == 0, api.XLe: a == 0 && b == 0,
				api.XAnd: a == 1 && b == 1, api.XOr: a == 1 && b == 1, api.XEq: a == b, api.XNe: a == b,
			} {
				makes := 1
				if op == api.XAdd || op == api.XSub || op == api.XMul {
					makes = 0
				}
				if want {
					kindIs(t, is(makes), slices.Concat(left, right, list(of(op)))...)
				} else {
					kindIs(t, no(api.ErrKind), slices.Concat(left, right, list(of(op)))...)
				}
			}
		}
	}
	for a, part := range parts {
		for n := range 6 {
			kindIs(t, theItem(n, a), append(slices.Clone(part), of(api.XItem, n))...)
		}
	}
	kindIs(t, is(1), append(truth, of(api.XNot))...)
	kindIs(t, is(0), append(number, of(api.XNeg))...)
	kindIs(t, no(api.ErrKind), append(s, of(api.XNeg))...)
	kindIs(t, no(api.ErrKind), append(truth, of(api.XNeg))...)
}

// P10.1: Self is a scalar, counted from 1 on.
func TestSelf(t *testing.T) {
	for self, want := range map[int]told{0: no(api.ErrNone), 1: is(2), 2: is(3), 3: no(api.ErrNone), -1: no(api.ErrNone), math.MaxInt: no(api.ErrNone), math.MinInt: no(api.ErrNone)} {
		s := theScope()
		s.Self = self
		if n, why := expr.Kind(list(of(api.XSelf)), s); n != want.n || why != want.why {
			t.Error(self, n, why)
		}
	}
	for _, self := range []int{0, -1, 7, math.MaxInt, math.MinInt} {
		if n, why := expr.Eval(list(of(api.XSelf)), api.Env{Self: self}); n != self || why != api.OK {
			t.Error(self, n, why)
		}
	}
}

// P10.2: numbers that leave their bounds, in between too.
func TestOutOfBounds(t *testing.T) {
	most, one := of(api.XNum, api.MaxNum), of(api.XNum, 1)
	valueIs(t, is(api.MaxNum), most, of(api.XNum), of(api.XAdd))
	valueIs(t, no(api.ErrRange), most, one, of(api.XAdd))
	valueIs(t, no(api.ErrRange), most, one, of(api.XAdd), one, of(api.XSub))
	valueIs(t, is(-api.MaxNum), most, of(api.XNeg))
	valueIs(t, no(api.ErrRange), most, of(api.XNeg), one, of(api.XSub))
	valueIs(t, is(api.MaxNum-1), most, one, of(api.XSub))
	valueIs(t, is(-2), one, of(api.XNum, 3), of(api.XSub))
	valueIs(t, is(-6), of(api.XNum, -3), of(api.XNum, 2), of(api.XMul))
	valueIs(t, is(api.MaxNum), of(api.XNum, 1024), of(api.XNum, 1024), of(api.XMul))
	valueIs(t, no(api.ErrRange), of(api.XNum, 1024), of(api.XNum, 1025), of(api.XMul))
	// What stands in an Env is told as it is, but nothing is made of it out of bounds.
	valueIs(t, is(math.MaxInt), of(api.XVar, 7))
	valueIs(t, is(math.MinInt), of(api.XNum, 2), of(api.XItem, 7))
	valueIs(t, no(api.ErrRange), of(api.XVar, 9), of(api.XNeg))
	valueIs(t, no(api.ErrRange), of(api.XVar, 7), of(api.XNum), of(api.XMul))
	valueIs(t, is(1), of(api.XVar, 9), of(api.XVar, 7), of(api.XLt))
	valueIs(t, is(0), of(api.XVar, 9), of(api.XNot))
	// Nothing but the value of an item is asked for its element.
	valueIs(t, no(api.ErrRange), of(api.XNone), of(api.XItem, 3))
	valueIs(t, no(api.ErrRange), of(api.XNum, 3), of(api.XItem, 3))
	valueIs(t, no(api.ErrRange), of(api.XVar, 9), of(api.XItem, 3))
	valueIs(t, no(api.ErrRange), of(api.XNum, 1), of(api.XItem, 6))
	valueIs(t, is(2), one, of(api.XItem, 3))
	valueIs(t, is(1), of(api.XNum, 2), of(api.XItem, 3))
}

// P10.1, P10.2: of several errors the one that is named first, of several nodes the first.
func TestOrder(t *testing.T) {
	// so many parts stand on the stack: one more is too deep.
	deep := nums(api.MaxStack)
	for _, x := range []struct {
		kind, value told
		e           []api.Node
	}{
		{no(api.ErrLong), no(api.ErrLong), make([]api.Node, api.MaxExpr+1)},
		{no(api.ErrLong), no(api.ErrLong), nums(api.MaxExpr + 1)},
		{no(api.ErrForm), no(api.ErrForm), make([]api.Node, api.MaxExpr)},
		{no(api.ErrShort), no(api.ErrShort), nil},
		{no(api.ErrShort), no(api.ErrShort), list()},
		{no(api.ErrForm), no(api.ErrForm), list(of(20))},
		{no(api.ErrForm), no(api.ErrForm), append(nums(api.MaxStack), of(0))},
		{no(api.ErrShort), no(api.ErrShort), list(of(api.XItem, -1))},
		{no(api.ErrShort), no(api.ErrShort), list(of(api.XNum), of(api.XEq))},
		{no(api.ErrShort), no(api.ErrShort), append(nums(2), of(api.XEq), of(api.XAnd))},
		{no(api.ErrNone), no(api.ErrNone), list(of(api.XNum), of(api.XItem, 99))},
		{no(api.ErrKind), no(api.ErrRange), list(of(api.XNum), of(api.XItem, 0))},
		{no(api.ErrRange), no(api.ErrRange), append(slices.Clone(deep), of(api.XNum, api.MaxNum+1))},
		{no(api.ErrNone), no(api.ErrNone), append(slices.Clone(deep), of(api.XVar, 99))},
		{no(api.ErrKind), no(api.ErrDeep), append(slices.Clone(deep), of(api.XVar, 3))},
		{no(api.ErrDeep), no(api.ErrDeep), append(slices.Clone(deep), of(api.XNum), of(20))},
		{no(api.ErrDeep), no(api.ErrDeep), nums(api.MaxExpr)},
		{no(api.ErrLong), no(api.ErrLong), deep},
		{no(api.ErrLong), no(api.ErrLong), nums(2)},
		{no(api.ErrKind), is(1), append(slices.Clone(deep[:1]), of(api.XNot))},
		{is(0), is(0), append(slices.Clone(deep), slices.Repeat(list(of(api.XAdd)), api.MaxStack-1)...)},
		{is(0), is(0), append(nums(1), slices.Repeat(list(of(api.XNeg)), api.MaxExpr-1)...)},
		{no(api.ErrNone), no(api.ErrNone), list(of(api.XLocal, 99), of(20))},
		{no(api.ErrForm), no(api.ErrForm), list(of(20), of(api.XLocal, 99))},
		{no(api.ErrShort), no(api.ErrShort), list(of(api.XOr), of(20))},
		{no(api.ErrRange), no(api.ErrRange), list(of(api.XNum, api.MaxNum+1), of(api.XVar, -1))},
		{no(api.ErrNone), no(api.ErrNone), list(of(api.XVar, -1), of(api.XNum, api.MaxNum+1))},
		{no(api.ErrKind), no(api.ErrShort), list(of(api.XNum), of(api.XNot), of(api.XAnd))},
	} {
		kindIs(t, x.kind, x.e...)
		valueIs(t, x.value, x.e...)
	}
}

// The rules that hold everywhere: nothing is there in the scope, or the Env, that is zero.
func TestNothingThere(t *testing.T) {
	for _, n := range []int{0, 1, -1, 15, 16, -16, math.MaxInt, math.MinInt} {
		for _, op := range []int{api.XVar, api.XLocal, api.XSelf, api.XLen, api.XAt, api.XNone} {
			if kind, why := expr.Kind(list(of(op, n)), api.Scope{}); kind != 0 || why != api.ErrNone {
				t.Error(op, n, kind, why)
			}
			want := api.ErrNone
			if op == api.XSelf || op == api.XNone {
				want = api.OK
			}
			if value, why := expr.Eval(list(of(op, n)), api.Env{}); value != 0 || why != want {
				t.Error(op, n, value, why)
			}
		}
		e := list(of(api.XNum, 1), of(api.XItem, n))
		if kind, why := expr.Kind(e, api.Scope{}); kind != 0 || why != api.ErrNone {
			t.Error(n, kind, why)
		}
		if value, why := expr.Eval(e, api.Env{}); value != 0 || why != api.ErrNone {
			t.Error(n, value, why)
		}
	}
}

// The rules that hold everywhere: nothing that is handed in is changed, what lies behind a list's length plays no part, and what is answered is new.
func TestListsAreLeftAlone(t *testing.T) {
	long := list(of(api.XVar, 1), of(api.XVar, 0), of(api.XEq), of(api.XNot), of(api.XLen, 7), of(api.XVar, 5))
	before := slices.Clone(long)
	e := long[:3]
	s, v := theScope(), theEnv()
	expr.Kind(e, s)
	expr.Eval(e, v)
	begins, _ := expr.Spans(e)
	used := expr.Uses(e)
	begins[2], used[0] = 9, of(99)
	_, _ = append(begins, 9), append(used, of(99))
	if !slices.Equal(long, before) {
		t.Error(long)
	}
	if begins, is := expr.Spans(e); !slices.Equal(begins, []int{0, 1, 0}) || !is {
		t.Error(begins, is)
	}
	if used := expr.Uses(e); !slices.Equal(used, list(of(api.XVar, 0), of(api.XVar, 1))) {
		t.Error(used)
	}
	row := []int{1, 2}
	short := api.Env{Vars: [][]int{row[:1], row[:0]}, Lens: row[:0], Locals: row[:0], At: [][]int{row[:0], row}[:1]}
	for _, e := range [][]api.Node{{of(api.XVar, 1)}, {of(api.XLen)}, {of(api.XLocal)}, {of(api.XAt)}, {of(api.XAt, 16)}} {
		if n, why := expr.Eval(e, short); n != 0 || why != api.ErrNone {
			t.Error(e, n, why)
		}
	}
	if n, why := expr.Eval(list(of(api.XNum, 2), of(api.XItem)), short); n != 0 || why != api.ErrRange {
		t.Error(n, why)
	}
}

// spansAre: that is what Spans tells; nothing, that it tells nothing.
func spansAre(t *testing.T, want []int, e ...api.Node) {
	t.Helper()
	if got, is := expr.Spans(e); !slices.Equal(got, want) || is != (want != nil) {
		t.Errorf("Spans(%v) = %v, %v, not %v", e, got, is, want)
	}
}

// P10.3
func TestSpans(t *testing.T) {
	n := of(api.XNum, math.MaxInt) // which number it is plays no part
	spansAre(t, []int{0}, n)
	spansAre(t, []int{0, 1, 0, 3, 0}, n, n, of(api.XAdd), n, of(api.XEq))
	spansAre(t, []int{0, 1, 2, 1, 1, 0}, n, n, n, of(api.XAdd), of(api.XNeg), of(api.XMul))
	spansAre(t, []int{0, 0, 2, 2, 0, 0}, n, of(api.XItem, -1), of(api.XVar, 99), of(api.XNot), of(api.XAnd), of(api.XNot))
	spansAre(t, nil)
	spansAre(t, nil, n, n)
	spansAre(t, nil, of(0))
	spansAre(t, nil, n, of(20))
	spansAre(t, nil, n, of(-1), n)
	spansAre(t, nil, of(api.XNot))
	spansAre(t, nil, n, of(api.XAdd))
	spansAre(t, nil, n, of(api.XAdd), n)
	spansAre(t, nil, n, n, n, of(api.XAdd))
	for _, op := range leaves() {
		spansAre(t, []int{0}, of(op, math.MinInt))
		spansAre(t, nil, n, of(op))
	}
	for op, count := range operations() {
		spansAre(t, nil, of(op))
		if count == 1 {
			spansAre(t, []int{0, 0}, n, of(op))
			spansAre(t, nil, n, n, of(op))
		} else {
			spansAre(t, nil, n, of(op))
			spansAre(t, []int{0, 1, 0}, n, n, of(op))
			spansAre(t, nil, n, n, n, of(op))
		}
	}
}

// P10.3: however long, and however deep.
func TestSpansOfLong(t *testing.T) {
	const count = 200000
	deep := nums(count)
	wide := nums(1)
	var ofDeep []int
	ofWide := []int{0}
	for n := range count {
		ofDeep = append(ofDeep, n)
	}
	for n := count - 2; n >= 0; n-- {
		deep, ofDeep = append(deep, of(api.XAdd)), append(ofDeep, n)
		wide, ofWide = append(wide, of(api.XNum), of(api.XAdd)), append(ofWide, len(ofWide), 0)
	}
	for _, x := range []struct {
		e    []api.Node
		want []int
	}{{deep, ofDeep}, {wide, ofWide}} {
		if got, is := expr.Spans(x.e); !slices.Equal(got, x.want) || !is {
			t.Error(len(x.e), len(got), is)
		}
		for _, op := range []int{api.XAdd, 0, api.XNum} {
			if got, is := expr.Spans(append(x.e, of(op))); len(got) != 0 || is {
				t.Error(len(x.e), op, len(got), is)
			}
		}
		if got, is := expr.Spans(x.e[:len(x.e)-1]); len(got) != 0 || is {
			t.Error(len(x.e), len(got), is)
		}
	}
}

// P10.3: all short lists of some nodes, and long ones, held against the parts as they are found by going back.
func TestSpansByTree(t *testing.T) {
	right := 0
	for e := range lists(list(of(api.XNum), of(api.XNone, -5), of(api.XItem, 3), of(api.XNot), of(api.XSub), of(api.XOr), of(21)), 5) {
		var want []int
		left, fits := 0, true
		for at, n := range e {
			count := takes(n.Op)
			if count < 0 || left < count {
				fits = false
				break
			}
			left += 1 - count
			_, begin := tree(e, at)
			want = append(want, begin)
		}
		fits = fits && left == 1
		if got, is := expr.Spans(e); is != fits || fits && !slices.Equal(got, want) || !fits && len(got) != 0 {
			t.Fatalf("Spans(%v) = %v, %v, not %v, %v", e, got, is, want, fits)
		}
		if fits {
			right++
		}
	}
	if right != 2+4+16+64+288 {
		t.Error("so many are right:", right)
	}
}

// P10.3
func TestUses(t *testing.T) {
	for _, x := range []struct{ e, want []api.Node }{
		{nil, nil},
		{list(of(api.XNum, 7), of(api.XSelf, 7), of(api.XNone, 7), of(api.XNot, 7), of(api.XAdd), of(api.XOr), of(0), of(-1), of(20, 3)), nil},
		{list(of(api.XAt, 1), of(api.XLen, 1), of(api.XLocal, 1), of(api.XItem, 1), of(api.XVar, 1)), list(of(api.XVar, 1), of(api.XItem, 1), of(api.XLocal, 1), of(api.XLen, 1), of(api.XAt, 1))},
		{list(of(api.XVar, 1), of(api.XVar, 0), of(api.XEq), of(api.XVar, 1), of(api.XVar, 0), of(api.XVar, 0)), list(of(api.XVar, 0), of(api.XVar, 1))},
		{list(of(api.XAt, 2), of(api.XVar, 2), of(api.XAt, -2), of(api.XVar, 2), of(api.XAt, 2)), list(of(api.XVar, 2), of(api.XAt, -2), of(api.XAt, 2))},
		{list(of(api.XLen, math.MaxInt), of(api.XLen, math.MinInt), of(api.XLen), of(api.XLen, -1)), list(of(api.XLen, math.MinInt), of(api.XLen, -1), of(api.XLen), of(api.XLen, math.MaxInt))},
		{list(of(api.XItem, 5)), list(of(api.XItem, 5))},
		{slices.Repeat(list(of(api.XLocal, 3), of(api.XLocal, 2)), 10000), list(of(api.XLocal, 2), of(api.XLocal, 3))},
	} {
		if got := expr.Uses(x.e); !slices.Equal(got, x.want) {
			t.Errorf("Uses(%v) = %v, not %v", x.e[:min(len(x.e), 9)], got, x.want)
		}
	}
}

// P10.3: of all lists of some nodes, each pair is there once, rising, just if it is in the list.
func TestUsesOfAll(t *testing.T) {
	of5 := []int{api.XVar, api.XItem, api.XLocal, api.XLen, api.XAt}
	for e := range lists(list(of(api.XNum, 1), of(api.XVar, 2), of(api.XVar, -1), of(api.XItem, 2), of(api.XLocal, 1), of(api.XSelf), of(api.XLen, 2), of(api.XAt, 0), of(api.XNone, 1), of(api.XAnd)), 4) {
		got := expr.Uses(e)
		for i, n := range got {
			if !slices.Contains(e, n) || !slices.Contains(of5, n.Op) || i > 0 && (n.Op < got[i-1].Op || n.Op == got[i-1].Op && n.N <= got[i-1].N) {
				t.Fatalf("Uses(%v) = %v", e, got)
			}
		}
		for _, n := range e {
			if slices.Contains(of5, n.Op) && !slices.Contains(got, n) {
				t.Fatalf("Uses(%v) = %v", e, got)
			}
		}
	}
}

// world: a scope, and an Env that is as it says, both made by a row of numbers.
type world struct {
	r     *rand.Rand
	scope api.Scope
	env   api.Env
}

// value: one of kind 1 + scalar, or a number, now and then at the bounds.
func (w *world) value(scalar int) int {
	if scalar > 0 {
		return w.r.Intn(w.scope.Scalars[scalar-1].Size + 1)
	}
	return []int{0, 1, -1, 2, 1023, 1024, -1025, api.MaxNum, -api.MaxNum}[w.r.Intn(9)]
}

func newWorld(seed int64) *world {
	w := &world{r: rand.New(rand.NewSource(seed))}
	scalars := w.r.Intn(api.MaxScalars + 1)
	for range scalars {
		w.scope.Scalars = append(w.scope.Scalars, api.Scalar{Size: 1 + w.r.Intn(api.MaxSize)})
	}
	for range 8 {
		v := api.Var{Scalar: w.r.Intn(scalars + 1), Over: w.r.Intn(scalars + 1)}
		cells := []int{w.value(v.Scalar)}
		if v.Over > 0 {
			for len(cells) < w.scope.Scalars[v.Over-1].Size {
				cells = append(cells, w.value(v.Scalar))
			}
		}
		w.scope.Vars, w.env.Vars = append(w.scope.Vars, v), append(w.env.Vars, cells)
	}
	for range 3 {
		v := api.Var{Scalar: w.r.Intn(scalars + 1)}
		w.scope.Locals, w.env.Locals = append(w.scope.Locals, v), append(w.env.Locals, w.value(v.Scalar))
		w.scope.Chans, w.env.Lens = append(w.scope.Chans, api.Chan{Scalar: w.r.Intn(scalars + 1), Cap: 2}), append(w.env.Lens, w.r.Intn(3))
		p := api.Proc{Locs: 1 + w.r.Intn(api.MaxLocs)}
		w.scope.Procs, w.env.At = append(w.scope.Procs, p), append(w.env.At, make([]int, p.Locs))
		w.env.At[len(w.env.At)-1][w.r.Intn(p.Locs)] = 1
	}
	if scalars > 0 {
		w.scope.Self = 1 + w.r.Intn(scalars)
		w.env.Self = 1 + w.r.Intn(w.scope.Scalars[w.scope.Self-1].Size)
	}
	return w
}

// leaf: some leaf.
func (w *world) leaf() api.Node {
	switch op := leaves()[w.r.Intn(len(leaves()))]; op {
	case api.XNum:
		return of(op, w.value(0))
	case api.XAt:
		return of(op, w.r.Intn(16*len(w.scope.Procs)))
	default:
		return of(op, w.r.Intn(len(w.scope.Vars)))
	}
}

// grown: an expression that has a kind, and that; of those that were tried the last one that had.
func (w *world) grown() (e []api.Node, kind int) {
	var all [][]api.Node
	var kinds []int
	for range 300 {
		var e []api.Node
		switch pick := func() []api.Node { return all[w.r.Intn(len(all))] }; {
		case len(all) < 5 || w.r.Intn(5) == 0:
			e = list(w.leaf())
		case w.r.Intn(3) == 0:
			e = append(slices.Clone(pick()), of([]int{api.XItem, api.XNot, api.XNeg}[w.r.Intn(3)], w.r.Intn(len(w.scope.Vars))))
		default:
			e = append(slices.Concat(pick(), pick()), of(api.XAdd+w.r.Intn(api.XOr-api.XAdd+1)))
		}
		if kind, why := expr.Kind(e, w.scope); why == api.OK {
			all, kinds = append(all, e), append(kinds, kind)
		}
	}
	return all[len(all)-1], kinds[len(kinds)-1]
}

// P10.4
func TestKindsAndValues(t *testing.T) {
	had, far := map[int]int{}, 0
	for seed := range int64(3000) {
		w := newWorld(seed)
		e, kind := w.grown()
		n, why := expr.Eval(e, w.env)
		if why == api.ErrRange && n == 0 {
			far++
			continue
		}
		lo, hi := -api.MaxNum, api.MaxNum
		switch {
		case kind == 1:
			lo, hi = 0, 1
		case kind > 1:
			lo, hi = 0, w.scope.Scalars[kind-2].Size
		}
		if why != api.OK || n < lo || n > hi {
			t.Fatalf("Eval(%v) of kind %d = %d, %v", e, kind, n, why)
		}
		had[kind]++
	}
	if far < 100 || len(had) != 4 || had[0] < 100 || had[1] < 100 || had[2] < 100 || had[3] < 50 {
		t.Error(far, had)
	}
}
