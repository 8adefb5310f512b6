package etext_test

import (
	"fmt"
	"math"
	"slices"
	"strings"
	"testing"

	"lariat/api"
	"lariat/etext"
	"lariat/expr"
)

// of: a node; n is its N, if it has one.
func of(op int, n ...int) api.Node {
	return api.Node{Op: op, N: append(n, 0)[0]}
}

// list: an expression.
func list(l ...api.Node) []api.Node {
	return l
}

// leaves: the operations that take no part.
func leaves() []int {
	return []int{api.XNum, api.XVar, api.XLocal, api.XSelf, api.XLen, api.XAt, api.XNone}
}

// onOne: the operations that take one part.
func onOne() []int {
	return []int{api.XItem, api.XNot, api.XNeg}
}

// onTwo: the operations that take two parts, each with its sign and how strongly it binds.
func onTwo() map[int]struct {
	sign     string
	strength int
} {
	return map[int]struct {
		sign     string
		strength int
	}{
		api.XOr: {"||", 1}, api.XAnd: {"&&", 2}, api.XEq: {"==", 3}, api.XNe: {"!=", 3}, api.XLt: {"<", 3}, api.XLe: {"<=", 3},
		api.XAdd: {"+", 4}, api.XSub: {"-", 4}, api.XMul: {"*", 5},
	}
}

// theScope: two scalars; variables, locals, channels and processes of each sort, all names being good, and an own element of the first scalar.
func theScope() api.Scope {
	return api.Scope{
		Scalars: []api.Scalar{{Name: "S", Size: 2}, {Name: "T", Size: 3}},
		Vars:    []api.Var{{Name: "x", Hi: 9}, {Name: "e", Scalar: 1}, {Name: "a", Over: 1, Hi: 9}, {Name: "b", Over: 2, Scalar: 1}, {Name: "c", Over: 1, Scalar: 2}, {Name: "f", Scalar: 2}},
		Chans:   []api.Chan{{Name: "c", Cap: 2}, {Name: "d_1", Scalar: 2, Cap: 1}},
		Procs:   []api.Proc{{Name: "P", Locs: 2}, {Name: "x", Over: 1, Locs: 12}},
		Locals:  []api.Var{{Name: "y", Hi: 5}, {Name: "g", Scalar: 2}},
		Self:    1,
	}
}

// rawScope: names that are none, that are words of expressions, and that several have; things that are none; what is over something.
func rawScope() api.Scope {
	long := strings.Repeat("a", api.MaxName)
	return api.Scope{
		Scalars: []api.Scalar{{Name: "S"}, {Name: "S"}, {Name: "none"}, {Name: "9"}, {Name: "T", Size: -5}},
		Vars:    []api.Var{{Name: "x"}, {Name: "x"}, {Name: "y"}, {Name: "self"}, {Name: "len"}, {Name: long}, {Name: long + "a"}, {Name: ""}, {Name: "x y"}, {Name: "a", Over: 5}, {Name: "y", Over: 5}, {Name: "odd", Scalar: 6}, {Name: "odd"}, {Name: "v", Scalar: 5}, {Name: "at", Over: 5}, {Name: "a", Over: 5}, {Name: "l", Over: 5}},
		Chans:   []api.Chan{{Name: "c"}, {Name: "c"}, {Name: "len"}, {Name: "self"}, {Name: "c d"}, {Name: "x"}, {Name: "o", Scalar: -1}},
		Procs:   []api.Proc{{Name: "P", Locs: 99}, {Name: "P", Locs: 16}, {Name: "at", Locs: 3}, {Name: "Q", Locs: -3}, {Name: "x", Locs: 1}, {Name: "é", Locs: 1}},
		Locals:  []api.Var{{Name: "y"}, {Name: "l"}, {Name: "l"}, {Name: "none"}, {Name: "l", Scalar: 9}, {Name: "m", Over: 1}, {Name: "n", Scalar: 9}, {Name: "\xff"}},
		Self:    5,
	}
}

// tree: where a part's last node stands, the places at which the parts that it is made of end, the left one first, and where it begins: found by going back.
func tree(e []api.Node, at int) (kids []int, begin int) {
	takes := 2
	if slices.Contains(leaves(), e[at].Op) {
		takes = 0
	} else if slices.Contains(onOne(), e[at].Op) {
		takes = 1
	}
	begin = at
	for range takes {
		kids = append([]int{begin - 1}, kids...)
		_, begin = tree(e, begin-1)
	}
	return kids, begin
}

// binds: how strongly a part binds that ends with n.
func binds(n api.Node) int {
	switch two, is := onTwo()[n.Op]; {
	case is:
		return two.strength
	case n.Op == api.XNot, n.Op == api.XNeg, n.Op == api.XNum && n.N < 0:
		return 6
	}
	return 7
}

// brackets: do they stand round a part that ends with kid and is the left, or right, one of what n makes?
func brackets(n, kid api.Node, right bool) bool {
	switch two := onTwo()[n.Op]; {
	case n.Op == api.XItem:
		return false
	case n.Op == api.XNeg && kid.Op == api.XNum:
		return true
	case n.Op == api.XNot, n.Op == api.XNeg:
		return binds(kid) < 6
	case two.strength == 3:
		return binds(kid) < 4
	case right:
		return binds(kid) <= two.strength
	default:
		return binds(kid) < two.strength
	}
}

// textOf: the text of the part that ends there, as the chapter's words say; names are told as they are.
func textOf(e []api.Node, at int, s api.Scope) string {
	n := e[at]
	kids, _ := tree(e, at)
	var parts []string
	for i, kid := range kids {
		p := textOf(e, kid, s)
		if brackets(n, e[kid], i == 1) {
			p = "(" + p + ")"
		}
		parts = append(parts, p)
	}
	switch n.Op {
	case api.XNum:
		return fmt.Sprint(n.N)
	case api.XVar:
		return s.Vars[n.N].Name
	case api.XItem:
		return s.Vars[n.N].Name + "[" + parts[0] + "]"
	case api.XLocal:
		return s.Locals[n.N].Name
	case api.XSelf:
		return "self"
	case api.XLen:
		return "len(" + s.Chans[n.N].Name + ")"
	case api.XAt:
		return fmt.Sprintf("at(%s, %d)", s.Procs[n.N/16].Name, n.N%16)
	case api.XNone:
		return "none(" + s.Scalars[n.N].Name + ")"
	case api.XNot:
		return "!" + parts[0]
	case api.XNeg:
		return "-" + parts[0]
	}
	return parts[0] + " " + onTwo()[n.Op].sign + " " + parts[1]
}

// plain: e, the N of nodes that have none being 0.
func plain(e []api.Node) []api.Node {
	e = slices.Clone(e)
	for i, n := range e {
		if !slices.Contains([]int{api.XNum, api.XVar, api.XItem, api.XLocal, api.XLen, api.XAt, api.XNone}, n.Op) {
			e[i].N = 0
		}
	}
	return e
}

// text: e has that text, and Parse leads back to e.
func text(t *testing.T, s api.Scope, want string, e ...api.Node) {
	t.Helper()
	if got, why := etext.Text(e, s); got != want || why != api.OK {
		t.Errorf("Text(%v) = %q, %v, not %q", e, got, why, want)
	}
	if got, at, why := etext.Parse(want, s); !slices.Equal(got, plain(e)) || at != 0 || why != api.OK {
		t.Errorf("Parse(%q) = %v, %d, %v, not %v", want, got, at, why, e)
	}
}

// noText: e has no text.
func noText(t *testing.T, s api.Scope, want api.Errno, e ...api.Node) {
	t.Helper()
	if got, why := etext.Text(e, s); got != "" || why != want {
		t.Errorf("Text(%v) = %q, %v, not %v", e, got, why, want)
	}
}

// P11.1, P11.2: the chapter's examples.
func TestExamples(t *testing.T) {
	s := theScope()
	text(t, s, "(x + 1) * 2", of(api.XVar), of(api.XNum, 1), of(api.XAdd), of(api.XNum, 2), of(api.XMul))
	text(t, s, "-1", of(api.XNum, -1))
	text(t, s, "-(1)", of(api.XNum, 1), of(api.XNeg))
	wrong(t, s, "x  == 1", 2, api.ErrText)
	wrong(t, s, "x == ", 5, api.ErrForm)
	a, b, c := of(api.XVar), of(api.XLocal), of(api.XLen)
	text(t, s, "x - y - len(c)", a, b, of(api.XSub), c, of(api.XSub))
	text(t, s, "x - (y - len(c))", a, b, c, of(api.XSub), of(api.XSub))
}

// P11.1, P11.2: each operation that takes no part, or one, at the edges of its N.
func TestSingleOperations(t *testing.T) {
	s := theScope()
	for _, n := range []int{0, 1, 9, 10, 1000000, api.MaxNum, -1, -10, -api.MaxNum} {
		text(t, s, fmt.Sprint(n), of(api.XNum, n))
		text(t, s, fmt.Sprintf("-(%d)", n), of(api.XNum, n), of(api.XNeg, n))
		text(t, s, fmt.Sprintf("--(%d)", n), of(api.XNum, n), of(api.XNeg), of(api.XNeg))
	}
	text(t, s, "x", of(api.XVar, 0))
	text(t, s, "f", of(api.XVar, 5))
	text(t, s, "y", of(api.XLocal, 0))
	text(t, s, "g", of(api.XLocal, 1))
	text(t, s, "self", of(api.XSelf))
	text(t, s, "self", of(api.XSelf, math.MinInt))
	text(t, s, "len(c)", of(api.XLen, 0))
	text(t, s, "len(d_1)", of(api.XLen, 1))
	text(t, s, "at(P, 0)", of(api.XAt, 0))
	text(t, s, "at(P, 1)", of(api.XAt, 1))
	text(t, s, "at(x, 0)", of(api.XAt, 16))
	text(t, s, "at(x, 11)", of(api.XAt, 27))
	text(t, s, "none(S)", of(api.XNone, 0))
	text(t, s, "none(T)", of(api.XNone, 1))
	text(t, s, "-x", of(api.XVar), of(api.XNeg, 5))
	text(t, s, "---y", of(api.XLocal), of(api.XNeg), of(api.XNeg), of(api.XNeg))
	text(t, s, "!(x == 1)", of(api.XVar), of(api.XNum, 1), of(api.XEq, 7), of(api.XNot, 7))
	text(t, s, "!!(x == 1)", of(api.XVar), of(api.XNum, 1), of(api.XEq), of(api.XNot), of(api.XNot))
	text(t, s, "a[self]", of(api.XSelf), of(api.XItem, 2))
	text(t, s, "-a[e]", of(api.XVar, 1), of(api.XItem, 2), of(api.XNeg))
	text(t, s, "a[b[c[none(S)]]]", of(api.XNone), of(api.XItem, 4), of(api.XItem, 3), of(api.XItem, 2))
}

// P11.1, P11.2: where brackets stand, written out.
func TestBrackets(t *testing.T) {
	s := theScope()
	x, y, one, below := of(api.XVar), of(api.XLocal), of(api.XNum, 1), of(api.XNum, -1)
	add, sub, mul, neg, not := of(api.XAdd), of(api.XSub), of(api.XMul), of(api.XNeg), of(api.XNot)
	eq, ne, lt, le, and, or := of(api.XEq), of(api.XNe), of(api.XLt), of(api.XLe), of(api.XAnd), of(api.XOr)
	text(t, s, "x + y - 1", x, y, add, one, sub)
	text(t, s, "x + (y + 1)", x, y, one, add, add)
	text(t, s, "x + (y - 1)", x, y, one, sub, add)
	text(t, s, "x - y * 1", x, y, one, mul, sub)
	text(t, s, "x * y * 1", x, y, mul, one, mul)
	text(t, s, "x * (y * 1)", x, y, one, mul, mul)
	text(t, s, "x * (y - 1)", x, y, one, sub, mul)
	text(t, s, "x * y + 1", x, y, mul, one, add)
	text(t, s, "-1 - -1", below, below, sub)
	text(t, s, "-1 * -x", below, x, neg, mul)
	text(t, s, "-(-1)", below, neg)
	text(t, s, "-(x * y)", x, y, mul, neg)
	text(t, s, "-x * y", x, neg, y, mul)
	text(t, s, "x < y", x, y, lt)
	text(t, s, "x + 1 <= y - 1", x, one, add, y, one, sub, le)
	text(t, s, "(x < y) == (x != y)", x, y, lt, x, y, ne, eq)
	text(t, s, "(x < y) == !(x != y)", x, y, lt, x, y, ne, not, eq)
	text(t, s, "(x < 1 && y < 1) != (x < 1 || y < 1)", x, one, lt, y, one, lt, and, x, one, lt, y, one, lt, or, ne)
	text(t, s, "x < 1 && y < 1 || x == y", x, one, lt, y, one, lt, and, x, y, eq, or)
	text(t, s, "(x < 1 || y < 1) && x == y", x, one, lt, y, one, lt, or, x, y, eq, and)
	text(t, s, "x == y && (x < 1 && y < 1)", x, y, eq, x, one, lt, y, one, lt, and, and)
	text(t, s, "x == y && (x < 1 || y < 1)", x, y, eq, x, one, lt, y, one, lt, or, and)
	text(t, s, "x == y || (x < 1 || y < 1)", x, y, eq, x, one, lt, y, one, lt, or, or)
	text(t, s, "x == y || x < 1 && y < 1", x, y, eq, x, one, lt, y, one, lt, and, or)
	text(t, s, "x == y && x < 1 && y < 1", x, y, eq, x, one, lt, and, y, one, lt, and)
	text(t, s, "!(x == y && x < 1)", x, y, eq, x, one, lt, and, not)
	text(t, s, "!!(x == y) || !(y <= x)", x, y, eq, not, not, y, x, le, not, or)
	text(t, s, "e == self", of(api.XVar, 1), of(api.XSelf), eq)
	text(t, s, "c[e] != none(T)", of(api.XVar, 1), of(api.XItem, 4), of(api.XNone, 1), ne)
	text(t, s, "a[self] + 1 < 2", of(api.XSelf), of(api.XItem, 2), one, add, of(api.XNum, 2), lt)
}

// P11.1: expr's errors come first.
func TestKindFirst(t *testing.T) {
	s := rawScope()
	noText(t, s, api.ErrShort)
	noText(t, s, api.ErrLong, make([]api.Node, api.MaxExpr+1)...)
	noText(t, s, api.ErrForm, of(20))
	noText(t, s, api.ErrShort, of(api.XVar, 3), of(api.XAdd))
	noText(t, s, api.ErrRange, of(api.XVar, 3), of(api.XNum, api.MaxNum+1))
	noText(t, s, api.ErrNone, of(api.XVar, 3), of(api.XVar, 99))
	noText(t, s, api.ErrNone, of(api.XVar, 11))
	noText(t, s, api.ErrNone, of(api.XLocal, 4))
	noText(t, s, api.ErrNone, of(api.XLen, 6))
	noText(t, s, api.ErrNone, of(api.XAt, 48))
	noText(t, s, api.ErrKind, of(api.XVar, 9))
	noText(t, s, api.ErrKind, of(api.XVar, 3), of(api.XNot))
	noText(t, s, api.ErrKind, of(api.XVar, 3), of(api.XItem, 9))
	noText(t, s, api.ErrLong, of(api.XVar, 3), of(api.XVar, 3))
	noText(t, s, api.ErrDeep, slices.Repeat(list(of(api.XVar, 3)), api.MaxStack+1)...)
	for _, op := range []int{api.XVar, api.XItem, api.XLocal, api.XSelf, api.XLen, api.XAt, api.XNone} {
		for _, n := range []int{0, -1, math.MaxInt, math.MinInt} {
			if got, why := etext.Text(list(of(op, n))[:1], api.Scope{}); got != "" || why == api.OK {
				t.Error(op, n, got, why)
			}
		}
	}
}

// P11.1: names that are none, and such that stand for another thing.
func TestNames(t *testing.T) {
	s := rawScope()
	long := strings.Repeat("a", api.MaxName)
	text(t, s, "x", of(api.XVar, 0))
	text(t, s, long, of(api.XVar, 5))
	text(t, s, "v", of(api.XVar, 13))
	text(t, s, "a[v]", of(api.XVar, 13), of(api.XItem, 9))
	text(t, s, "y", of(api.XLocal, 0))
	text(t, s, "l", of(api.XLocal, 1))
	text(t, s, "len(c)", of(api.XLen, 0))
	text(t, s, "len(x)", of(api.XLen, 5))
	text(t, s, "at(P, 0)", of(api.XAt, 0))
	text(t, s, "at(P, 15)", of(api.XAt, 15))
	text(t, s, "at(x, 0)", of(api.XAt, 64))
	text(t, s, "none(S)", of(api.XNone, 0))
	text(t, s, "none(T)", of(api.XNone, 4))
	for _, e := range [][]api.Node{
		{of(api.XVar, 1)},                    // stands for variable 0
		{of(api.XVar, 2)},                    // for local 0
		{of(api.XVar, 3)}, {of(api.XVar, 4)}, // words of expressions
		{of(api.XVar, 6)}, {of(api.XVar, 7)}, // too long, too short
		{of(api.XVar, 8)},                      // no word
		{of(api.XVar, 12)},                     // stands for variable 11, though that is none
		{of(api.XSelf), of(api.XItem, 10)},     // stands for local 0
		{of(api.XSelf), of(api.XItem, 16)},     // for local 1
		{of(api.XSelf), of(api.XItem, 14)},     // a word of expressions
		{of(api.XSelf), of(api.XItem, 15)},     // stands for variable 9
		{of(api.XLocal, 2)}, {of(api.XLen, 1)}, // stand for others
		{of(api.XLocal, 3)}, {of(api.XLocal, 7)},
		{of(api.XLen, 2)}, {of(api.XLen, 3)}, {of(api.XLen, 4)},
		{of(api.XAt, 16)}, {of(api.XAt, 31)}, {of(api.XAt, 33)}, {of(api.XAt, 80)},
		{of(api.XNone, 1)}, {of(api.XNone, 2)}, {of(api.XNone, 3)},
	} {
		noText(t, s, api.ErrName, e...)
	}
	noText(t, s, api.ErrName, of(api.XNum, 1), of(api.XVar), of(api.XAdd), of(api.XVar, 3), of(api.XEq))
	noText(t, s, api.ErrName, of(api.XVar, 3), of(api.XNum, 1), of(api.XAdd))
	noText(t, s, api.ErrName, of(api.XVar, 7), of(api.XNeg), of(api.XNeg))
	// Names that are not told play no part.
	bad := api.Scope{Scalars: []api.Scalar{{Name: "no name"}}, Vars: []api.Var{{Name: "?"}, {Name: "y"}}, Self: 1}
	text(t, bad, "self", of(api.XSelf))
	text(t, bad, "y - 1", of(api.XVar, 1), of(api.XNum, 1), of(api.XSub))
}

// grown: expressions that have a kind in s, by how many steps they are away from leaves: all of the lowest two, and of each further one so many as they come.
func grown(s api.Scope, leaves []api.Node, levels, most int) [][]api.Node {
	var all [][]api.Node
	keep := func(e []api.Node) {
		if _, why := expr.Kind(e, s); why == api.OK {
			all = append(all, e)
		}
	}
	for _, n := range leaves {
		keep(list(n))
	}
	for level := range levels {
		parts := all
		if level > 1 {
			// Some from all over: a step that shares nothing with how many there are.
			parts = nil
			for i := 0; i < len(all); i += 1 + len(all)/most {
				parts = append(parts, all[i])
			}
		}
		for _, left := range parts {
			for _, op := range onOne() {
				for n := range 6 {
					if n == 0 || op == api.XItem {
						keep(append(slices.Clone(left), of(op, n)))
					}
				}
			}
			for _, right := range parts {
				for op := api.XAdd; op <= api.XOr; op++ {
					keep(append(slices.Concat(left, right), of(op)))
				}
			}
		}
	}
	return all
}

// P11.1, P11.3, P11.4: grown expressions, each operation upon each other one: their texts are as the words say, lead back, and no two are alike.
func TestGrown(t *testing.T) {
	s := theScope()
	few := grown(s, list(of(api.XNum, 1), of(api.XNum, -2), of(api.XLocal)), 3, 120)
	many := grown(s, list(of(api.XNum, 0), of(api.XVar), of(api.XVar, 1), of(api.XVar, 5), of(api.XSelf), of(api.XLocal, 1), of(api.XLen, 1), of(api.XAt, 27), of(api.XNone), of(api.XNone, 1)), 2, 0)
	if len(few) < 20000 || len(many) < 20000 {
		t.Error("so few:", len(few), len(many))
	}
	by := map[string][]api.Node{}
	for _, e := range slices.Concat(few, many) {
		got, why := etext.Text(e, s)
		if want := textOf(e, len(e)-1, s); got != want || why != api.OK {
			t.Fatalf("Text(%v) = %q, %v, not %q", e, got, why, want)
		}
		if other, is := by[got]; is && !slices.Equal(other, e) {
			t.Fatalf("%q is the text of %v and of %v", got, e, other)
		}
		by[got] = e
		if back, at, why := etext.Parse(got, s); !slices.Equal(back, e) || at != 0 || why != api.OK {
			t.Fatalf("Parse(%q) = %v, %d, %v, not %v", got, back, at, why, e)
		}
	}
}

// P11.1: as long, and as deep, as an expression may be.
func TestGreatest(t *testing.T) {
	s := theScope()
	x := of(api.XVar)
	text(t, s, strings.Repeat("-", api.MaxExpr-1)+"x", append(list(x), slices.Repeat(list(of(api.XNeg)), api.MaxExpr-1)...)...)
	noText(t, s, api.ErrLong, append(list(x), slices.Repeat(list(of(api.XNeg)), api.MaxExpr)...)...)
	wrong(t, s, strings.Repeat("-", api.MaxExpr)+"x", 0, api.ErrLong)
	deep := append(slices.Repeat(list(x), api.MaxStack), slices.Repeat(list(of(api.XSub)), api.MaxStack-1)...)
	text(t, s, strings.Repeat("x - (", api.MaxStack-2)+"x - x"+strings.Repeat(")", api.MaxStack-2), deep...)
	wrong(t, s, strings.Repeat("x - (", api.MaxStack-1)+"x - x"+strings.Repeat(")", api.MaxStack-1), 0, api.ErrLong)
	wrong(t, s, strings.Repeat("x - (", api.MaxStack-1)+"x"+strings.Repeat(")", api.MaxStack-1), 8+5*(api.MaxStack-3)+1, api.ErrText)
	wide := list(x)
	for range api.MaxStack - 1 {
		wide = append(wide, x, of(api.XSub))
	}
	text(t, s, "x"+strings.Repeat(" - x", api.MaxStack-1), wide...)
	wrong(t, s, "x"+strings.Repeat(" - x", api.MaxStack), 0, api.ErrLong)
}

// The rules that hold everywhere: nothing that is handed in is changed, what lies behind a list's length plays no part, and what is answered is new.
func TestListsAreLeftAlone(t *testing.T) {
	long := list(of(api.XVar), of(api.XNum, 1), of(api.XEq, 9), of(api.XNot), of(api.XVar, 5))
	before := slices.Clone(long)
	s := theScope()
	if got, why := etext.Text(long[:3], s); got != "x == 1" || why != api.OK {
		t.Error(got, why)
	}
	if !slices.Equal(long, before) {
		t.Error(long)
	}
	e, _, _ := etext.Parse("x == 1", s)
	e[0] = of(99)
	_ = append(e, of(99))
	text(t, s, "x == 1", of(api.XVar), of(api.XNum, 1), of(api.XEq))
	s.Vars, s.Locals, s.Chans, s.Procs, s.Scalars = s.Vars[:0], s.Locals[:0], s.Chans[:0], s.Procs[:0], s.Scalars[:0]
	for _, name := range []string{"x", "y", "len(c)", "at(P, 0)", "none(S)"} {
		if e, _, why := etext.Parse(name, s); len(e) != 0 || why != api.ErrNone {
			t.Error(name, e, why)
		}
	}
}
