package ltext_test

import (
	"math"
	"slices"
	"strings"
	"testing"

	"lariat/api"
	"lariat/ltext"
	"lariat/ltl"
)

// of: a node; n is its N, if it has one.
func of(op int, n ...int) api.Node {
	return api.Node{Op: op, N: append(n, 0)[0]}
}

// list: a formula.
func list(l ...api.Node) []api.Node {
	return l
}

// p, q, r: propositions.
func p() api.Node { return of(api.FProp, 0) }
func q() api.Node { return of(api.FProp, 1) }
func r() api.Node { return of(api.FProp, 2) }

// theNames: a good one for each proposition, the last of the greatest length.
func theNames() []string {
	return []string{"p", "q", "r", "x", "Until", "true1", "X_", strings.Repeat("a", api.MaxName)}
}

// rawNames: some that may be and some that may not, at the places that a formula may have and behind them.
func rawNames() []string {
	return []string{"X", "p", "p", "self", "q", "2", "true", "r", "late", "p"}
}

// onOne, onTwo: the operations with one part, and with two, each with its sign.
func onOne() map[int]string {
	return map[int]string{api.FNot: "!", api.FNext: "X", api.FFin: "F", api.FGlob: "G"}
}

func onTwo() map[int]string {
	return map[int]string{api.FUntil: "U", api.FRel: "R", api.FAnd: "&&", api.FOr: "||", api.FImp: "=>"}
}

// binds: how a formula binds that ends with a node of that Op.
func binds(op int) int {
	switch op {
	case api.FUntil, api.FRel:
		return 4
	case api.FAnd:
		return 3
	case api.FOr:
		return 2
	case api.FImp:
		return 1
	}
	return 5
}

// asks: what the places of the left and of the right part of that Op ask for.
func asks(op int) (left, right int) {
	if op == api.FAnd || op == api.FOr {
		return binds(op), binds(op) + 1
	}
	return binds(op) + 1, binds(op)
}

// textOf: the text of the formula f, as the chapter's words say.
func textOf(f []api.Node, names []string) string {
	var part func(at, asked int) (string, int)
	part = func(at, asked int) (text string, begin int) {
		n := f[at]
		begin = at
		switch n.Op {
		case api.FTrue:
			text = "true"
		case api.FFalse:
			text = "false"
		case api.FProp:
			text = names[n.N]
		case api.FNot:
			text, begin = part(at-1, 5)
			text = "!" + text
		case api.FNext, api.FFin, api.FGlob:
			text, begin = part(at-1, 5)
			text = onOne()[n.Op] + " " + text
		default:
			ofLeft, ofRight := asks(n.Op)
			right, end := part(at-1, ofRight)
			left, first := part(end-1, ofLeft)
			text, begin = left+" "+onTwo()[n.Op]+" "+right, first
		}
		if binds(n.Op) < asked {
			text = "(" + text + ")"
		}
		return text, begin
	}
	text, _ := part(len(f)-1, 1)
	return text
}

// bare: f, with N 0 of all but FProp.
func bare(f []api.Node) []api.Node {
	l := slices.Clone(f)
	for i := range l {
		if l[i].Op != api.FProp {
			l[i].N = 0
		}
	}
	return l
}

// text: f has that text, and Parse leads back (P24.1, P24.2, P24.3).
func text(t *testing.T, names []string, want string, f ...api.Node) {
	t.Helper()
	before, namesBefore := slices.Clone(f), slices.Clone(names)
	s, why := ltext.Text(f, names)
	if s != want || why != api.OK {
		t.Fatalf("Text(%v) = %q, %v, not %q", f, s, why, want)
	}
	l, at, why := ltext.Parse(want, names)
	if !slices.Equal(l, bare(f)) || at != 0 || why != api.OK {
		t.Fatalf("Parse(%q) = %v, %d, %v, not %v", want, l, at, why, bare(f))
	}
	if !slices.Equal(f, before) || !slices.Equal(names, namesBefore) {
		t.Fatalf("%v, %q were changed: %v, %q", before, namesBefore, f, names)
	}
}

// refused: f has no text, and that is why.
func refused(t *testing.T, names []string, want api.Errno, f ...api.Node) {
	t.Helper()
	if s, why := ltext.Text(f, names); s != "" || why != want {
		t.Errorf("Text(%v, %q) = %q, %v, not %v", f, names, s, why, want)
	}
}

// chance: numbers that look like chance, the same each time.
type chance uint64

func (c *chance) below(n int) int {
	*c = *c*6364136223846793005 + 1442695040888963407
	return int(*c>>33) % n
}

// grown: a formula of so many nodes.
func grown(c *chance, size int) []api.Node {
	n := c.below(9)
	switch {
	case size == 1 && n == 8:
		return list(of(api.FTrue+c.below(2), n))
	case size == 1:
		return list(of(api.FProp, n))
	case size == 2 || n < 3:
		return append(grown(c, size-1), of([]int{api.FNot, api.FNext, api.FFin, api.FGlob}[c.below(4)], n))
	}
	left := 1 + c.below(size-2)
	return append(append(grown(c, left), grown(c, size-1-left)...), of([]int{api.FAnd, api.FOr, api.FImp, api.FUntil, api.FRel}[c.below(5)], -n))
}

// P24.1: the examples, each operation, and brackets.
func TestText(t *testing.T) {
	names := theNames()
	text(t, names, "G (p => F q)", p(), q(), of(api.FFin), of(api.FImp), of(api.FGlob))
	text(t, names, "G p => F q", p(), of(api.FGlob), q(), of(api.FFin), of(api.FImp))
	text(t, names, "p && q && r", p(), q(), of(api.FAnd), r(), of(api.FAnd))
	text(t, names, "p && (q && r)", p(), q(), r(), of(api.FAnd), of(api.FAnd))
	text(t, names, "p || q || r", p(), q(), of(api.FOr), r(), of(api.FOr))
	text(t, names, "p || (q || r)", p(), q(), r(), of(api.FOr), of(api.FOr))
	text(t, names, "p U q U r", p(), q(), r(), of(api.FUntil), of(api.FUntil))
	text(t, names, "(p U q) U r", p(), q(), of(api.FUntil), r(), of(api.FUntil))
	text(t, names, "p R q U r", p(), q(), r(), of(api.FUntil), of(api.FRel))
	text(t, names, "(p U q) R r", p(), q(), of(api.FUntil), r(), of(api.FRel))
	text(t, names, "p => q => r", p(), q(), r(), of(api.FImp), of(api.FImp))
	text(t, names, "(p => q) => r", p(), q(), of(api.FImp), r(), of(api.FImp))
	text(t, names, "!!p", p(), of(api.FNot), of(api.FNot))
	text(t, names, "!X !F G p", p(), of(api.FGlob), of(api.FFin), of(api.FNot), of(api.FNext), of(api.FNot))
	text(t, names, "!(p U q)", p(), q(), of(api.FUntil), of(api.FNot))
	text(t, names, "!p U !q", p(), of(api.FNot), q(), of(api.FNot), of(api.FUntil))
	text(t, names, "true U false", of(api.FTrue, 5), of(api.FFalse, -5), of(api.FUntil, 7))
	text(t, names, "p || q && r U x", p(), q(), r(), of(api.FProp, 3), of(api.FUntil), of(api.FAnd), of(api.FOr))
	text(t, names, "((p || q) && r) U x", p(), q(), of(api.FOr), r(), of(api.FAnd), of(api.FProp, 3), of(api.FUntil))
	text(t, names, "p U (q && (r || (x => Until)))", p(), q(), r(), of(api.FProp, 3), of(api.FProp, 4), of(api.FImp), of(api.FOr), of(api.FAnd), of(api.FUntil))
	text(t, names, "p U q && r U x", p(), q(), of(api.FUntil), r(), of(api.FProp, 3), of(api.FUntil), of(api.FAnd))
	text(t, names, "X_ => true1 => "+strings.Repeat("a", 16), of(api.FProp, 6), of(api.FProp, 5), of(api.FProp, 7), of(api.FImp), of(api.FImp))
	text(t, nil, "true", of(api.FTrue))
	text(t, nil, "G false", of(api.FFalse), of(api.FGlob))
}

// P24.1: each operation as each part of each one.
func TestBrackets(t *testing.T) {
	for up, sign := range onTwo() {
		ofLeft, ofRight := asks(up)
		for down, inner := range onTwo() {
			left, right := "q "+inner+" r", "q "+inner+" r"
			if binds(down) < ofLeft {
				left = "(" + left + ")"
			}
			if binds(down) < ofRight {
				right = "(" + right + ")"
			}
			text(t, theNames(), left+" "+sign+" p", q(), r(), of(down), p(), of(up))
			text(t, theNames(), "p "+sign+" "+right, p(), q(), r(), of(down), of(up))
		}
		for down, inner := range onOne() {
			inner = strings.TrimPrefix(inner+" ", "! ")
			if down == api.FNot {
				inner = "!"
			}
			text(t, theNames(), inner+"p "+sign+" "+inner+"q", p(), of(down), q(), of(down), of(up))
			text(t, theNames(), inner+"(p "+sign+" q)", p(), q(), of(up), of(down))
		}
	}
}

// P24.1: why there is no text, and which error comes first.
func TestRefused(t *testing.T) {
	names := theNames()
	refused(t, names, api.ErrShort)
	refused(t, names, api.ErrShort, p(), of(api.FUntil))
	refused(t, names, api.ErrLong, p(), p())
	refused(t, names, api.ErrForm, of(0))
	refused(t, names, api.ErrForm, p(), of(13))
	refused(t, names, api.ErrRange, of(api.FProp, 8))
	refused(t, append(names, "late"), api.ErrRange, of(api.FProp, 8))
	refused(t, names, api.ErrRange, of(api.FProp, math.MinInt))
	refused(t, names, api.ErrLong, append(list(p()), slices.Repeat(list(of(api.FNot)), 24)...)...)
	text(t, names, strings.Repeat("!", 23)+"p", append(list(p()), slices.Repeat(list(of(api.FNot)), 23)...)...)
	refused(t, nil, api.ErrNone, p())
	refused(t, names[:2], api.ErrNone, of(api.FProp, 2))
	refused(t, names[:2], api.ErrNone, p(), of(api.FProp, 7), of(api.FAnd))
	refused(t, nil, api.ErrLong, p(), p())
	refused(t, nil, api.ErrRange, p(), of(api.FProp, 8), of(api.FAnd))
	for _, bad := range []string{"X", "F", "G", "U", "R", "true", "false", "self", "none", "len", "at", "", "1", "p q", "_p", "p ", "é", "p\n", strings.Repeat("a", api.MaxName+1), "!", "=>", "("} {
		refused(t, []string{bad}, api.ErrName, p())
		refused(t, []string{"p", bad}, api.ErrName, p(), q(), of(api.FOr))
		refused(t, []string{"p", bad}, api.ErrName, q(), r(), of(api.FOr))
		refused(t, []string{"p", bad}, api.ErrNone, r(), q(), of(api.FOr))
		refused(t, []string{bad}, api.ErrShort, p(), of(api.FOr))
		text(t, []string{"p", bad}, "p", p())
		text(t, []string{bad, "p"}, "p", q())
	}
	for _, good := range []string{"x", "XX", "f", "g", "u", "r", "True", "TRUE", "falses", "Self", "lens", "a_", "Z9"} {
		text(t, []string{good}, "G "+good, p(), of(api.FGlob))
	}
	raw := rawNames()
	for i, want := range []api.Errno{api.ErrName, api.OK, api.ErrName, api.ErrName, api.OK, api.ErrName, api.ErrName, api.OK} {
		if want != api.OK {
			refused(t, raw, want, of(api.FProp, i))
			continue
		}
		text(t, raw, raw[i], of(api.FProp, i))
	}
	refused(t, []string{"X", "X"}, api.ErrName, q())
	refused(t, []string{"p", "q", "p"}, api.ErrName, r())
}

// P24.3: all formulas of up to five nodes, and grown ones of up to MaxForm. No two have one text.
func TestThereAndBack(t *testing.T) {
	texts := map[string][]api.Node{}
	tell := func(f []api.Node) {
		want := textOf(f, theNames())
		text(t, theNames(), want, f...)
		if other, is := texts[want]; is && !slices.Equal(bare(f), other) {
			t.Fatalf("%v and %v: %q", f, other, want)
		}
		texts[want] = bare(f)
	}
	nodes := list(p(), q(), of(api.FTrue), of(api.FFalse, 1), of(api.FNot), of(api.FNext, 3), of(api.FFin), of(api.FGlob), of(api.FUntil, -1), of(api.FRel), of(api.FAnd), of(api.FOr), of(api.FImp))
	var all func(f []api.Node)
	all = func(f []api.Node) {
		if ltl.Check(f) == api.OK {
			tell(f)
		}
		if len(f) == 5 {
			return
		}
		for _, n := range nodes {
			// A list that has too few parts somewhere is no beginning of a formula.
			if next := append(slices.Clone(f), n); ltl.Check(next) != api.ErrShort {
				all(next)
			}
		}
	}
	all(nil)
	c := chance(24)
	for i := range 30000 {
		tell(grown(&c, 1+i%api.MaxForm))
	}
}

// What is answered is new, and what stands behind a list's length plays no part.
func TestShared(t *testing.T) {
	whole := list(p(), q(), of(api.FUntil), of(99))
	names := append(theNames(), "late")
	text(t, names[:2], "p U q", whole[:3]...)
	refused(t, names[:1], api.ErrNone, whole[:3]...)
	a, _, _ := ltext.Parse("p U q", names)
	b, _, _ := ltext.Parse("p U q", names)
	a[0] = of(99)
	if !slices.Equal(b, whole[:3]) {
		t.Error(a, b)
	}
	_ = append(b, of(99))
	text(t, names, "p U q", b...)
}
