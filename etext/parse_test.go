package etext_test

import (
	"math/rand"
	"slices"
	"strings"
	"testing"

	"lariat/api"
	"lariat/etext"
	"lariat/expr"
	"lariat/lex"
)

// wrong: Parse tells that place in the text, and why.
func wrong(t *testing.T, s api.Scope, of string, wantAt int, want api.Errno) {
	t.Helper()
	e, at, why := etext.Parse(of, s)
	if len(e) != 0 || at != wantAt || why != want {
		t.Errorf("Parse(%q) = %v, %d, %v, not %d, %v", of[:min(len(of), 60)], e, at, why, wantAt, want)
	}
}

// P11.2: lex's errors come ahead of all others.
func TestLexFirst(t *testing.T) {
	s := theScope()
	wrong(t, s, ") = 1", 2, api.ErrText)
	wrong(t, s, "x = x", 2, api.ErrText)
	wrong(t, s, "zz 007", 3, api.ErrRange)
	wrong(t, s, "zz 1048577", 3, api.ErrRange)
	wrong(t, s, "x + -1048577", 5, api.ErrRange)
	wrong(t, s, "( abcdefghijklmnopq", 2, api.ErrName)
	wrong(t, s, "x\t", 1, api.ErrText)
	wrong(t, s, strings.Repeat("x", api.MaxText+1), 0, api.ErrLong)
	wrong(t, s, strings.Repeat(") ", api.MaxTokens)+")", 2*api.MaxTokens, api.ErrMany)
	wrong(t, s, strings.Repeat(") ", api.MaxTokens), 0, api.ErrForm)
}

// P11.2: the token that may not stand there.
func TestForm(t *testing.T) {
	s := theScope()
	for of, at := range map[string]int{
		"": 0, "  ": 2, "\n": 1, "# x": 3, "x +": 3, "x + ": 4, "(": 1, "(x": 2, "( x # )\n ": 9, "!": 1, "-": 1, "- # 1": 5,
		"x x": 2, "x 1": 2, "1 x": 2, "1 1": 2, "x self": 2, "x (": 2, "x !": 2, "x ! x": 2, "x )": 2, "x ]": 2, "x ,": 2, "x, x": 1, "(x))": 3, "()": 1, "(]": 1, "(x]": 2, "(x, y)": 2,
		"+ x": 0, "* x": 0, "== x": 0, "x + + x": 4, "x == == x": 5, "x * == x": 4, "x || && x": 5, "x - * x": 4, "[x]": 0, ", x": 0, ")": 0,
		"x == x == x": 7, "x < x <= x": 6, "x != x == x == x": 7, "(x == x) == x == x": 14, "x == (x == x) == x": 14, "x + x < x + x < x": 14, "!x < x < x": 7, "-x < x < x": 7,
		"x := x": 2, "x -> x": 2, "x => x": 2, "x @ x": 2, "x ? x": 2, "x ; x": 2, "x { x": 2, "x . x": 2, "x : x": 2, "{": 0, "@": 0, "?": 0, "x # x\n x": 7,
		"len": 3, "len c": 4, "len(": 4, "len(1)": 4, "len((c))": 4, "len(-1)": 4, "len(c": 5, "len(c, 1)": 5, "len(c]": 5, "len[c]": 3, "len + 1": 4, "len(c)(": 6, "len(c) c": 7, "len()": 4,
		"none": 4, "none S": 5, "none(": 5, "none(1)": 5, "none(S": 6, "none(S, 1)": 6, "none[S]": 4, "none()": 5, "none != x": 5,
		"at": 2, "at P": 3, "at(": 3, "at(1": 3, "at(P": 4, "at(P)": 4, "at(P 1)": 5, "at(P,": 5, "at(P, x)": 6, "at(P, -1)": 6, "at(P, )": 6, "at(P, 1": 7, "at(P, 1, 1)": 7, "at(P, 1]": 7, "at(P, (1))": 6, "at[P, 1]": 2, "at()": 3,
		"self(": 4, "self[x]": 4, "self self": 5, "y[self]": 1, "g[self]": 1, "x + y[self]": 5, "(y[self])": 2, "1[self]": 1, "(x)[self]": 3, "a[self][self]": 7,
		"a[": 2, "a[]": 2, "a[self": 6, "a[self)": 6, "a[self, self]": 6, "a[self self]": 7, "a[[self]]": 2, "x[": 2, "x[self": 6, "a(self)": 1,
		"!-": 2, "-!": 2, "!(": 2, "-(1": 3, "-()": 2, "--": 2, "!!": 2, "x - ": 4, "x -": 3, "- - 1 1": 6, "-1 1": 3, "-x 1": 3, "!x x": 3,
	} {
		wrong(t, s, of, at, api.ErrForm)
	}
}

// P11.2: words that stand for nothing, numbers of locations, and their order with what may not stand there.
func TestNone(t *testing.T) {
	s := theScope()
	for of, at := range map[string]int{
		"z": 0, "x + z": 4, "X": 0, "P": 0, "S": 0, "d_1": 0, "z(": 0, "z[self]": 0, "z z": 0, "!z": 1, "-z )": 1, "(z": 1, "a[z": 2, "z + ": 0, "x == z == x": 5, "selfs": 0, "Self": 0,
		"len(x)": 4, "len(x": 4, "len(x x": 4, "len(self)": 4, "len(len)": 4, "len(P)": 4, "len(y)": 4,
		"at(c, 0)": 3, "at(c": 3, "at(c c": 3, "at(self, 1)": 3, "at(at, 1)": 3, "at(y, 1)": 3, "at(S, 99)": 3,
		"none(x)": 5, "none(x": 5, "none(self": 5, "none(none)": 5, "none(P)": 5,
	} {
		wrong(t, s, of, at, api.ErrNone)
	}
	for of, at := range map[string]int{"at(P, 16)": 6, "at(P, 16": 6, "at(P, 1048576 ]": 6, "at( P,17)": 6, "x + at(P, 99) z": 10} {
		wrong(t, s, of, at, api.ErrRange)
	}
	wrong(t, s, "at(P, 15)", 0, api.ErrNone)
	wrong(t, s, "at(x, 12)", 0, api.ErrNone)
	wrong(t, s, "x z", 2, api.ErrForm)
	wrong(t, s, "(x z)", 3, api.ErrForm)
	wrong(t, s, "at(P z", 5, api.ErrForm)
	for _, of := range []string{"x", "y", "len(c)", "at(P, 0)", "none(S)", "a[self]"} {
		wrong(t, api.Scope{}, of, strings.IndexAny(of, "(")+1, api.ErrNone)
	}
	wrong(t, api.Scope{}, "self", 0, api.ErrNone)
	wrong(t, api.Scope{}, "1 + self", 0, api.ErrNone)
}

// P11.2: then kinds, then names, then the text itself.
func TestKindThenNameThenText(t *testing.T) {
	s := theScope()
	for of, want := range map[string]api.Errno{
		"!x": api.ErrKind, "( ! x )": api.ErrKind, "x + self": api.ErrKind, "a": api.ErrKind, " a": api.ErrKind, "a[x]": api.ErrKind, "a[a]": api.ErrKind, "x[self]": api.ErrKind, "x[ 1 ]": api.ErrKind, "b[self]": api.ErrKind,
		"-(x == 1)": api.ErrKind, "(x == 1) + 1": api.ErrKind, "x && x": api.ErrKind, "e == f": api.ErrKind, "none(S) == none(T)": api.ErrKind, "self < e": api.ErrKind, "(x < x) <= (x < x)": api.ErrKind,
		"x || x == x": api.ErrKind, "at(P,15)": api.ErrNone, strings.Repeat("(", 30) + "!x" + strings.Repeat(")", 30): api.ErrKind,
		strings.Repeat("x + ", 12) + "x": api.ErrLong, strings.Repeat("x+", 12) + "x": api.ErrLong,
	} {
		wrong(t, s, of, 0, want)
	}
	raw := rawScope()
	for of, want := range map[string]api.Errno{
		"len(len)": api.ErrName, "len( self )": api.ErrName, "at(at, 2)": api.ErrName, "at(at, 3)": api.ErrNone, "none(none)": api.ErrName, "1 + len(len)": api.ErrName, "-len(self) == 1": api.ErrName, "!len(len)": api.ErrKind,
		"none(none) == v": api.ErrKind, "odd": api.ErrNone, "m": api.ErrKind, "n": api.ErrNone, "1 + n": api.ErrNone, "len(o)": api.ErrNone, "at(Q, 0)": api.ErrNone,
	} {
		wrong(t, raw, of, 0, want)
	}
	wrong(t, raw, "y[v]", 1, api.ErrForm) // stands for a local
	text(t, raw, "a[self]", of(api.XSelf), of(api.XItem, 9))
}

// P11.2: the first place where the text that is read and the one of the expression part.
func TestParting(t *testing.T) {
	s := theScope()
	for of, at := range map[string]int{
		"x  == 1": 2, "x== 1": 1, "x ==1": 4, " x": 0, "x ": 1, "x\n": 1, "x # all": 1, "# no\nx": 0, "(x)": 0, "((x))": 0, "x + (1)": 4, "(x + 1)": 0, "(x * y) + 1": 0, "x + (y * 1)": 4, "x - (1) - 1": 4, "(x - 1) - 1": 0,
		"x\n+ 1": 1, "x + y  - 1": 6, "x+1": 1, "- 1": 1, "- x": 1, "-( 1)": 2, "-(x)": 1, "- -1": 1, "--1": 1, "-0": 0, "x + -0": 4, "x - - 1": 5, "x -1": 3, "-(-(1))": 1,
		"!(x == 1) ": 9, "! (x == 1)": 1, "!(!(x == 1))": 1, "(!(x == 1))": 0, "len (c)": 3, "len( c)": 4, "len(c )": 5, "at(P,1)": 5, "at(P , 1)": 4, "at (P, 1)": 2, "at(P, 1 )": 7, "at(P,  1)": 6, "none( S)": 5,
		"a [self]": 1, "a[ self]": 2, "a[self ]": 6, "a[(self)]": 2, "(a[self])": 0, "(self)": 0, "x == 1 && (y == 1)": 10, "x == 1 || (y == 1 && x == 1)": 10, "(x == 1 && y == 1) || x == 1": 0, "(x) == 1": 0, "(x + 1) == 1": 0, "x == (1 + 1)": 5,
		strings.Repeat("(", 2000) + "x" + strings.Repeat(")", 2000): 0,
	} {
		wrong(t, s, of, at, api.ErrText)
	}
}

// P11.2, G7: texts as deep and as long as tokens go.
func TestDeep(t *testing.T) {
	s := theScope()
	const most = api.MaxTokens
	wrong(t, s, strings.Repeat("(", most), most, api.ErrForm)
	wrong(t, s, strings.Repeat("!", most), most, api.ErrForm)
	wrong(t, s, strings.Repeat("-", most), most, api.ErrForm)
	wrong(t, s, strings.Repeat("!", most-1)+"x", 0, api.ErrLong)
	wrong(t, s, strings.Repeat("-", most-1)+"1", 0, api.ErrLong)
	wrong(t, s, strings.Repeat("(", most/2)+"x"+strings.Repeat(")", most/2-1), most, api.ErrForm)
	wrong(t, s, strings.Repeat("(", most/2-1)+"x"+strings.Repeat(")", most/2-1), 0, api.ErrText)
	wrong(t, s, strings.Repeat("(", most/2-1)+"x"+strings.Repeat(")", most/2), most-1, api.ErrForm)
	wrong(t, s, strings.Repeat("a[", most/2), most, api.ErrForm)
	wrong(t, s, strings.Repeat("a[", most/3-1)+"self"+strings.Repeat("]", most/3-1), 0, api.ErrLong)
	wrong(t, s, strings.Repeat("x+(", most/4)+"x"+strings.Repeat(")", most/4-1), 3*(most/4)+most/4, api.ErrForm)
	wrong(t, s, strings.Repeat("x+(", most/4-1)+"x"+strings.Repeat(")", most/4-1), 0, api.ErrLong)
	wrong(t, s, strings.Repeat("x+", most/2), most, api.ErrForm)
	wrong(t, s, strings.Repeat("x||", most/2-1)+"x", 0, api.ErrLong)
	wrong(t, s, strings.Repeat("x-", most/2-1)+"z", most-2, api.ErrNone)
	wrong(t, s, "x"+strings.Repeat(" ", api.MaxText-1), 1, api.ErrText)
}

// level: what has been read within one pair of brackets: parts, signs that wait for what binds less, and what opened it.
type level struct {
	opener   string
	item     int // of a [: the variable
	signs    []int
	compared bool // since the last && or ||
}

// machine: reads tokens by turns, first a part, then a sign, and puts out nodes as signs find that what they take is whole. It shares nothing with a reader that goes down.
type machine struct {
	s      api.Scope
	tokens []lex.Token
	levels []level
	out    []api.Node
}

func (m *machine) top() *level {
	return &m.levels[len(m.levels)-1]
}

// settle: puts out the signs that wait and bind at least so strongly.
func (m *machine) settle(least int) {
	l := m.top()
	for len(l.signs) > 0 && binds(of(l.signs[len(l.signs)-1])) >= least {
		m.out = append(m.out, of(l.signs[len(l.signs)-1]))
		l.signs = l.signs[:len(l.signs)-1]
	}
}

// is: is token i there, and that text?
func (m *machine) is(i int, text string) bool {
	return i < len(m.tokens) && m.tokens[i].Text == text
}

// kind: is token i there, and of that kind?
func (m *machine) kind(i, kind int) bool {
	return i < len(m.tokens) && m.tokens[i].Kind == kind
}

// call: behind the word at i: a bracket, a name of names, and a bracket; of at a number too. The node, and the token behind; or the one that is wrong.
func (m *machine) call(i, op int, names []string) (api.Node, int, api.Errno) {
	if !m.is(i+1, "(") {
		return api.Node{}, i + 1, api.ErrForm
	}
	if !m.kind(i+2, lex.Word) {
		return api.Node{}, i + 2, api.ErrForm
	}
	n := slices.Index(names, m.tokens[i+2].Text)
	if n < 0 {
		return api.Node{}, i + 2, api.ErrNone
	}
	i += 3
	if op == api.XAt {
		if !m.is(i, ",") {
			return api.Node{}, i, api.ErrForm
		}
		if !m.kind(i+1, lex.Num) {
			return api.Node{}, i + 1, api.ErrForm
		}
		if m.tokens[i+1].N > 15 {
			return api.Node{}, i + 1, api.ErrRange
		}
		n = 16*n + m.tokens[i+1].N
		i += 2
	}
	if !m.is(i, ")") {
		return api.Node{}, i, api.ErrForm
	}
	return of(op, n), i + 1, api.OK
}

// part: reads at i what may stand where a part begins. The token behind, and whether the part is whole; or the one that is wrong.
func (m *machine) part(i int) (next int, whole bool, why api.Errno) {
	put := func(n api.Node, next int, why api.Errno) (int, bool, api.Errno) {
		m.out = append(m.out, n)
		return next, true, why
	}
	switch {
	case m.kind(i, lex.Num):
		return put(of(api.XNum, m.tokens[i].N), i+1, api.OK)
	case m.is(i, "-") && m.kind(i+1, lex.Num):
		return put(of(api.XNum, -m.tokens[i+1].N), i+2, api.OK)
	case m.is(i, "-"), m.is(i, "!"):
		m.top().signs = append(m.top().signs, map[string]int{"-": api.XNeg, "!": api.XNot}[m.tokens[i].Text])
		return i + 1, false, api.OK
	case m.is(i, "("):
		m.levels = append(m.levels, level{opener: "("})
		return i + 1, false, api.OK
	case m.is(i, "self"):
		return put(of(api.XSelf), i+1, api.OK)
	case m.is(i, "len"):
		var names []string
		for _, c := range m.s.Chans {
			names = append(names, c.Name)
		}
		return put(m.call(i, api.XLen, names))
	case m.is(i, "at"):
		var names []string
		for _, p := range m.s.Procs {
			names = append(names, p.Name)
		}
		return put(m.call(i, api.XAt, names))
	case m.is(i, "none"):
		var names []string
		for _, s := range m.s.Scalars {
			names = append(names, s.Name)
		}
		return put(m.call(i, api.XNone, names))
	case !m.kind(i, lex.Word):
		return i, false, api.ErrForm
	}
	named := func(v api.Var) bool { return v.Name == m.tokens[i].Text }
	if n := slices.IndexFunc(m.s.Locals, named); n >= 0 {
		return put(of(api.XLocal, n), i+1, api.OK)
	}
	n := slices.IndexFunc(m.s.Vars, named)
	if n < 0 {
		return i, false, api.ErrNone
	}
	if m.is(i+1, "[") {
		m.levels = append(m.levels, level{opener: "[", item: n})
		return i + 2, false, api.OK
	}
	return put(of(api.XVar, n), i+1, api.OK)
}

// sign: reads at i what may stand behind a part. Whether a part comes next.
func (m *machine) sign(i int) (part bool, why api.Errno) {
	l := m.top()
	if opener := map[string]string{")": "(", "]": "["}[m.tokens[i].Text]; opener != "" {
		if l.opener != opener {
			return false, api.ErrForm
		}
		m.settle(0)
		if opener == "[" {
			m.out = append(m.out, of(api.XItem, l.item))
		}
		m.levels = m.levels[:len(m.levels)-1]
		return false, api.OK
	}
	for op, two := range onTwo() {
		if !m.is(i, two.sign) {
			continue
		}
		if two.strength == 3 && l.compared {
			return false, api.ErrForm
		}
		m.settle(two.strength)
		l.compared = two.strength == 3 || two.strength > 3 && l.compared
		l.signs = append(l.signs, op)
		return true, api.OK
	}
	return false, api.ErrForm
}

// read: the nodes of the tokens; or the place in the text that is wrong, and why.
func (m *machine) read(end int) ([]api.Node, int, api.Errno) {
	m.levels = []level{{}}
	i, whole := 0, false
	for i < len(m.tokens) || !whole {
		var why api.Errno
		if whole {
			var part bool
			part, why = m.sign(i)
			whole = !part
			if why == api.OK {
				i++
			}
		} else {
			i, whole, why = m.part(i)
		}
		if why != api.OK && i < len(m.tokens) {
			return nil, m.tokens[i].At, why
		}
		if why != api.OK {
			return nil, end, why
		}
	}
	if len(m.levels) > 1 {
		return nil, end, api.ErrForm
	}
	m.settle(0)
	return m.out, 0, api.OK
}

// parsed: what Parse tells of a text, by a machine and textOf.
func parsed(of string, s api.Scope) ([]api.Node, int, api.Errno) {
	tokens, at, why := lex.Scan(of)
	if why != api.OK {
		return nil, at, why
	}
	m := machine{s: s, tokens: tokens}
	e, at, why := m.read(len(of))
	if why != api.OK {
		return nil, at, why
	}
	if _, why := expr.Kind(e, s); why != api.OK {
		return nil, 0, why
	}
	if slices.ContainsFunc(e, func(n api.Node) bool { return nameless(n, s) }) {
		return nil, 0, api.ErrName
	}
	want := textOf(e, len(e)-1, s)
	for at := range max(len(want), len(of)) {
		if at >= len(want) || at >= len(of) || want[at] != of[at] {
			return nil, at, api.ErrText
		}
	}
	return e, 0, api.OK
}

// nameless: does n tell a name that is none? (What is read stands for what it names.)
func nameless(n api.Node, s api.Scope) bool {
	switch n.Op {
	case api.XLen:
		return !lex.Name(s.Chans[n.N].Name)
	case api.XAt:
		return !lex.Name(s.Procs[n.N/16].Name)
	case api.XNone:
		return !lex.Name(s.Scalars[n.N].Name)
	}
	return false
}

// sameAsMachine: Parse tells of a text what parsed tells. Why.
func sameAsMachine(t *testing.T, of string, s api.Scope) api.Errno {
	t.Helper()
	e, at, why := etext.Parse(of, s)
	want, wantAt, wantWhy := parsed(of, s)
	if !slices.Equal(e, want) || at != wantAt || why != wantWhy {
		t.Fatalf("Parse(%q) = %v, %d, %v, not %v, %d, %v", of, e, at, why, want, wantAt, wantWhy)
	}
	if why == api.OK {
		if back, why := etext.Text(e, s); back != of || why != api.OK {
			t.Fatalf("Text(%v) = %q, %v, not %q", e, back, why, of)
		}
	}
	return why
}

// P11.2, P11.3: all short rows of tokens, with blanks between and without.
func TestShortTexts(t *testing.T) {
	for _, x := range []struct {
		tokens string
		most   int
		s      api.Scope
	}{
		{"x y a e z self len at none c P S 1 16 ( ) [ ] , - ! + * == < && || ;", 3, theScope()},
		{"x a self 1 ( ) [ ] - ! + * == <= && ||", 4, theScope()},
		{"x self ( ) [ ] - ==", 5, theScope()},
		{"len at none self c P S x ( ) , 1 16 ==", 4, rawScope()},
		{"x l y a v ( ) [ ] - ! + != ||", 4, rawScope()},
	} {
		tokens := strings.Fields(x.tokens)
		seen := map[api.Errno]int{}
		var longer func(l []string)
		longer = func(l []string) {
			seen[sameAsMachine(t, strings.Join(l, " "), x.s)]++
			seen[sameAsMachine(t, strings.Join(l, ""), x.s)]++
			for _, token := range tokens {
				if len(l) < x.most {
					longer(append(l, token))
				}
			}
		}
		longer(nil)
		if seen[api.OK] < 10 || seen[api.ErrForm] < 1000 || seen[api.ErrText] < 10 || seen[api.ErrKind] < 10 {
			t.Error(x.tokens, seen)
		}
	}
}

// P11.2: texts of expressions with a few tokens, or bytes, taken out, put in, or turned about.
func TestSpoiltTexts(t *testing.T) {
	r := rand.New(rand.NewSource(11))
	s, raw := theScope(), rawScope()
	var texts []string
	for i, e := range grown(s, list(of(api.XNum, 3), of(api.XNum, -4), of(api.XVar), of(api.XVar, 1), of(api.XSelf), of(api.XAt, 17), of(api.XLen, 1), of(api.XNone)), 3, 60) {
		if i%7 == 0 {
			texts = append(texts, textOf(e, len(e)-1, s))
		}
	}
	more := strings.Fields("x y a e z self len at none c P S 1 16 0 -0 ( ) [ ] , - ! + * == != < <= && || ; @ = # 007 -> ->> é")
	more = append(more, "", " ", "\n")
	seen := map[api.Errno]int{}
	for range 40000 {
		text := texts[r.Intn(len(texts))]
		for range 1 + r.Intn(3) {
			at, end := r.Intn(len(text)+1), 0
			end = min(at+r.Intn(4), len(text))
			text = text[:at] + more[r.Intn(len(more))] + text[end:]
		}
		seen[sameAsMachine(t, text, s)]++
		sameAsMachine(t, text, raw)
	}
	for _, why := range []api.Errno{api.OK, api.ErrForm, api.ErrText, api.ErrKind, api.ErrNone} {
		if seen[why] < 30 {
			t.Error(seen)
		}
	}
}

// P11.2, P11.3: raw texts of any bytes.
func TestRawTexts(t *testing.T) {
	r := rand.New(rand.NewSource(12))
	for range 20000 {
		l := make([]byte, r.Intn(12))
		for i := range l {
			l[i] = byte(r.Intn(256))
			if r.Intn(2) == 0 {
				l[i] = "xyae1()[]-!+=<&|, "[r.Intn(18)]
			}
		}
		sameAsMachine(t, string(l), theScope())
	}
}
