package mtext_test

import (
	"math/rand"
	"regexp"
	"slices"
	"strconv"
	"strings"
	"testing"

	"lariat/api"
	"lariat/etext"
	"lariat/model"
	"lariat/mtext"
)

// A line's fields by patterns: F any field, N a number, V values with what each begins at, E an expression.
func pattern(form string) *regexp.Regexp {
	form = strings.ReplaceAll(form, "V", "(?:(?P<lo>N) (?P<hi>N)|of (?P<of>F))")
	form = strings.ReplaceAll(form, "O", "(?: over (?P<over>F))?")
	form = strings.ReplaceAll(form, "N", "(?:0|-?[1-9][0-9]{0,6})")
	form = strings.ReplaceAll(form, "F", "[^ ]*")
	return regexp.MustCompile("^(?s:" + strings.ReplaceAll(form, "E", "(?P<expr>.+)") + ")$")
}

// patterns: of each word how its lines look.
var patterns = map[string]*regexp.Regexp{
	"scalar": pattern("scalar (?P<name>F) (?P<n>N)"), "var": pattern("var (?P<name>F)O V (?P<n>N)"), "chan": pattern("chan (?P<name>F)(?P<flag> lossy)? (?P<n>N) V"),
	"proc": pattern("proc (?P<name>F)O (?P<n>N)"), "local": pattern("local (?P<name>F) V (?P<n>N)"), "cmd": pattern("cmd (?P<name>F)(?P<flag> fair)? (?P<n>N) (?P<m>N)"),
	"when": pattern("when E"), "at": pattern("at E"), "set": pattern("set (?P<var>F) E"), "put": pattern("put (?P<var>F) E"), "let": pattern("let (?P<local>F) E"),
	"send": pattern("send (?P<chan>F) E"), "recv": pattern("recv (?P<chan>F) (?P<local>F)"), "prop": pattern("prop (?P<name>F) E"),
}

// signs: of each word one, to be read by stands.
var signs = map[string]string{"scalar": "s", "var": "v", "chan": "c", "proc": "p", "local": "l", "cmd": "m", "when": "w", "at": "a", "put": "t", "set": "x", "let": "x", "send": "x", "recv": "x", "prop": "q"}

// stands: the words of lines that may stand behind one another; an at may be the last one.
var stands = regexp.MustCompile(`^s*v*c*(pl*(mw?(x|at)*)*)*(q*|pl*(mw?(x|at)*)*mw?(x|at)*a)$`)

// lineOf and wordOf: a line with its end, and the first field of a line.
var lineOf, wordOf = regexp.MustCompile(`(?s)[^\n]*\n|[^\n]+$`), regexp.MustCompile(`^[^ ]*`)

// field is what the line has under that name, and whether it has it.
func field(l string, p *regexp.Regexp, name string) (string, bool) {
	at := p.SubexpIndex(name)
	if at < 0 {
		return "", false
	}
	span := p.FindStringSubmatchIndex(l)[2*at:]
	if span[0] < 0 {
		return "", false
	}
	return l[span[0]:span[1]], true
}

// byPatterns: what Parse is to tell.
type byPatterns struct {
	m     api.Model
	exprs []pending
}

// pending: an expression, with its line, and the places of its process, command and act; -1 of those that it has none of.
type pending struct {
	at, proc, cmd, act int
	word, text         string
}

func (b *byPatterns) lists(name string) []string {
	var l []string
	switch name {
	case "of", "over":
		for _, s := range b.m.Scalars {
			l = append(l, s.Name)
		}
	case "var":
		for _, v := range b.m.Vars {
			l = append(l, v.Name)
		}
	case "chan":
		for _, c := range b.m.Chans {
			l = append(l, c.Name)
		}
	case "local":
		for _, v := range b.m.Procs[len(b.m.Procs)-1].Vars {
			l = append(l, v.Name)
		}
	}
	return l
}

// line adds a line that has its form and stands where it may.
func (b *byPatterns) line(at int, word, l string) api.Errno {
	p := patterns[word]
	text := func(name string) string {
		s, _ := field(l, p, name)
		return s
	}
	value := func(name string) int {
		n, _ := strconv.Atoi(text(name))
		return n
	}
	for _, name := range []string{"n", "m", "lo", "hi"} {
		if value(name) > api.MaxNum || value(name) < -api.MaxNum {
			return api.ErrForm
		}
	}
	place := map[string]int{}
	for _, name := range []string{"over", "of", "var", "chan", "local"} {
		if s, is := field(l, p, name); is {
			place[name] = 1 + slices.Index(b.lists(name), s)
			if place[name] == 0 {
				return api.ErrNone
			}
		}
	}
	v := api.Var{Name: text("name"), Scalar: place["of"], Over: place["over"], Lo: value("lo"), Hi: value("hi"), Init: value("n")}
	switch word {
	case "scalar":
		b.m.Scalars = append(b.m.Scalars, api.Scalar{Name: v.Name, Size: v.Init})
	case "var":
		b.m.Vars = append(b.m.Vars, v)
	case "chan":
		b.m.Chans = append(b.m.Chans, api.Chan{Name: v.Name, Scalar: v.Scalar, Cap: v.Init, Lo: v.Lo, Hi: v.Hi, Lossy: text("flag") != ""})
	case "proc":
		b.m.Procs = append(b.m.Procs, api.Proc{Name: v.Name, Over: v.Over, Locs: v.Init})
	case "prop":
		b.m.Props = append(b.m.Props, api.Prop{Name: v.Name})
		b.exprs = append(b.exprs, pending{at, -1, len(b.m.Props) - 1, -1, word, text("expr")})
	default:
		b.part(at, word, v, place, text, value)
	}
	return api.OK
}

// part adds a line of a process.
func (b *byPatterns) part(at int, word string, v api.Var, place map[string]int, text func(string) string, value func(string) int) {
	pr := &b.m.Procs[len(b.m.Procs)-1]
	switch word {
	case "local":
		pr.Vars = append(pr.Vars, v)
		return
	case "cmd":
		pr.Cmds = append(pr.Cmds, api.Cmd{Name: v.Name, From: v.Init, To: value("m"), Fair: text("flag") != ""})
		return
	}
	c := &pr.Cmds[len(pr.Cmds)-1]
	a := api.Act{To: max(place["var"], place["chan"], place["local"]) - 1}
	switch word {
	case "at":
		c.Acts = append(c.Acts, api.Act{Kind: api.ActItem})
	case "put":
		c.Acts[len(c.Acts)-1].To = a.To
	case "recv":
		c.Acts = append(c.Acts, api.Act{Kind: api.ActRecv, To: place["chan"] - 1, Local: place["local"] - 1})
		return
	case "set", "let", "send":
		a.Kind = map[string]int{"set": api.ActSet, "let": api.ActLocal, "send": api.ActSend}[word]
		c.Acts = append(c.Acts, a)
	}
	b.exprs = append(b.exprs, pending{at, len(b.m.Procs) - 1, len(pr.Cmds) - 1, len(c.Acts) - 1, word, text("expr")})
}

// parsed: what Parse is to tell of s.
func parsed(s string) (api.Model, told) {
	if len(s) > api.MaxText {
		return api.Model{}, told{0, api.ErrLong}
	}
	l := lineOf.FindAllString(s, -1)
	b := &byPatterns{}
	row := ""
	for at, line := range l {
		line = strings.TrimSuffix(line, "\n")
		word := wordOf.FindString(line)
		p := patterns[word]
		row += signs[word]
		if p == nil || !p.MatchString(line) || !stands.MatchString(row) {
			return api.Model{}, told{at, api.ErrForm}
		}
		if why := b.line(at, word, line); why != api.OK {
			return api.Model{}, told{at, why}
		}
	}
	if strings.HasSuffix(row, "a") {
		return api.Model{}, told{len(l), api.ErrForm}
	}
	if t := b.expressions(); t.why != api.OK {
		return api.Model{}, t
	}
	if why := model.Check(b.m).Why; why != api.OK {
		return api.Model{}, told{len(l), why}
	}
	if s != "" && !strings.HasSuffix(s, "\n") {
		return api.Model{}, told{len(l) - 1, api.ErrText}
	}
	return b.m, told{}
}

func (b *byPatterns) expressions() told {
	for _, x := range b.exprs {
		s := api.Scope{Scalars: b.m.Scalars, Vars: b.m.Vars, Chans: b.m.Chans, Procs: b.m.Procs}
		if x.proc >= 0 {
			s.Locals, s.Self = b.m.Procs[x.proc].Vars, b.m.Procs[x.proc].Over
		}
		e, _, why := etext.Parse(x.text, s)
		if why != api.OK {
			return told{x.at, why}
		}
		switch x.word {
		case "prop":
			b.m.Props[x.cmd].Expr = e
		case "when":
			b.m.Procs[x.proc].Cmds[x.cmd].Guard = e
		case "at":
			b.m.Procs[x.proc].Cmds[x.cmd].Acts[x.act].Index = e
		default:
			b.m.Procs[x.proc].Cmds[x.cmd].Acts[x.act].Value = e
		}
	}
	return told{}
}

// as: Parse tells what the patterns tell.
func as(t *testing.T, s string) told {
	t.Helper()
	m, want := parsed(s)
	got, at, why := mtext.Parse(s)
	if (told{at, why}) != want || !same(got, m) {
		t.Fatalf("Parse is %+v, %d, %v, not %+v, %v, of\n%s", got, at, why, m, want, s)
	}
	if want.why == api.OK {
		if again, f := mtext.Text(got); again != s || f.Why != api.OK {
			t.Fatalf("Text of Parse is\n%s\nnot\n%s", again, s)
		}
	}
	return want
}

// cut is a place in s, by chance, of those between fields and lines more often than others.
func cut(s string, chance *rand.Rand) int {
	at := chance.Intn(len(s) + 1)
	if chance.Intn(3) > 0 {
		if next := strings.IndexAny(s[at:], " \n"); next >= 0 {
			at += next + chance.Intn(2)
		}
	}
	return at
}

// spoiltText is s with something changed by chance.
func spoiltText(s string, chance *rand.Rand) string {
	l := strings.SplitAfter(s, "\n")
	i, j := chance.Intn(len(l)), chance.Intn(len(l))
	words := []string{" ", "\n", "  ", "\n\n", "over", "of", "lossy", "fair", "0", "1", "2", "-1", "at", "self", "S", "x", "a", "y", "c", "q", "T", " == ", "(", ")", "set x 0\n", "at self\n", "cmd z 0 0\n", "when x == 1\n", "local z 0 1 0\n", "", "#", "1048577", "00"}
	switch chance.Intn(8) {
	case 0: // two lines change places
		l[i], l[j] = l[j], l[i]
	case 1: // a line is left out
		l = slices.Delete(l, i, i+1)
	case 2: // a line stands twice
		l = slices.Insert(l, j, l[i])
	case 3: // something is put in
		at := cut(s, chance)
		return s[:at] + words[chance.Intn(len(words))] + s[at:]
	case 4, 5: // a field becomes another one
		f := strings.Split(l[i], " ")
		f[chance.Intn(len(f))] = words[chance.Intn(len(words))]
		l[i] = strings.Join(f, " ")
	case 6: // something is left out
		at := cut(s, chance)
		return s[:at] + s[min(len(s), at+1+chance.Intn(4)):]
	case 7: // a beginning
		return s[:cut(s, chance)]
	}
	return strings.Join(l, "")
}

// P16.2, P16.3: spoilt texts, by patterns.
func TestSpoiltTexts(t *testing.T) {
	chance := rand.New(rand.NewSource(16))
	as(t, theText)
	as(t, "")
	count := map[api.Errno]int{}
	for range 20000 {
		s := theText
		for range 1 + chance.Intn(3) {
			s = spoiltText(s, chance)
		}
		count[as(t, s).why]++
	}
	for _, why := range []api.Errno{api.OK, api.ErrForm, api.ErrNone, api.ErrText, api.ErrKind, api.ErrTwice, api.ErrRange} {
		if count[why] < 20 {
			t.Error("too few of", why, count)
		}
	}
}

// P16.2: all beginnings of a text, and all texts that lack one of its bytes.
func TestBeginnings(t *testing.T) {
	for at := range len(theText) {
		as(t, theText[:at])
		as(t, theText[:at]+theText[at+1:])
	}
}

// grown makes models by chance.
type grown struct {
	*rand.Rand
	m      api.Model
	locals []api.Var
	self   int
}

// leaves: the expressions of a kind (0 numbers, 1 truths, 2 and more elements) that are made at once.
func (g *grown) leaves(kind int) [][]api.Node {
	of := func(scalar int) bool { return scalar == 0 && kind == 0 || scalar > 0 && kind == 1+scalar }
	var l [][]api.Node
	for i, v := range g.m.Vars {
		if v.Over == 0 && of(v.Scalar) {
			l = append(l, []api.Node{n(api.XVar, i)})
		}
	}
	for i, v := range g.locals {
		if of(v.Scalar) {
			l = append(l, []api.Node{n(api.XLocal, i)})
		}
	}
	switch {
	case kind == 0:
		for i := range g.m.Chans {
			l = append(l, []api.Node{n(api.XLen, i)})
		}
		for i, p := range g.m.Procs {
			l = append(l, []api.Node{n(api.XAt, 16*i+g.Intn(p.Locs))})
		}
		l = append(l, []api.Node{n(api.XNum, g.Intn(9)-4)})
	case kind > 1:
		l = append(l, []api.Node{n(api.XNone, kind-2)})
		if g.self == kind-1 {
			l = append(l, []api.Node{n(api.XSelf)})
		}
	default:
		l = append(l, []api.Node{n(api.XNum), n(api.XNum), n(api.XLe)})
	}
	return l
}

// expression: one of that kind, by chance.
func (g *grown) expression(kind, deep int) []api.Node {
	if deep > 0 {
		for i, v := range g.m.Vars {
			is := v.Scalar == 0 && kind == 0 || v.Scalar > 0 && kind == 1+v.Scalar
			if v.Over > 0 && is && g.Intn(3) == 0 {
				return append(g.expression(1+v.Over, deep-1), n(api.XItem, i))
			}
		}
		pair := func(kind, op int) []api.Node {
			return append(slices.Concat(g.expression(kind, deep-1), g.expression(kind, deep-1)), n(op))
		}
		switch x := g.Intn(9); {
		case kind == 0 && x < 3:
			return pair(0, []int{api.XAdd, api.XSub, api.XMul}[x])
		case kind == 0 && x == 3:
			return append(g.expression(0, deep-1), n(api.XNeg))
		case kind == 1 && x < 2:
			return pair(1, []int{api.XAnd, api.XOr}[x])
		case kind == 1 && x < 4:
			return pair(0, []int{api.XLt, api.XLe}[x-2])
		case kind == 1 && x == 4:
			return append(g.expression(1, deep-1), n(api.XNot))
		case kind == 1:
			return pair(g.Intn(2+len(g.m.Scalars)), []int{api.XEq, api.XNe}[x%2])
		}
	}
	l := g.leaves(kind)
	return l[g.Intn(len(l))]
}

// variable: one that may be, of that name.
func (g *grown) variable(name string) api.Var {
	v := api.Var{Name: name, Scalar: g.Intn(1 + len(g.m.Scalars))}
	if v.Scalar > 0 {
		v.Init = g.Intn(1 + g.m.Scalars[v.Scalar-1].Size)
		return v
	}
	v.Lo = g.Intn(9) - 4
	v.Init = v.Lo + g.Intn(5)
	v.Hi = v.Init + g.Intn(5)
	return v
}

func kindOf(scalar int) int {
	if scalar == 0 {
		return 0
	}
	return 1 + scalar
}

// act: one that may be, in the process that it is at.
func (g *grown) act(comm *bool) (api.Act, bool) {
	kind := 1 + g.Intn(5)
	a := api.Act{Kind: kind}
	size := map[int]int{api.ActSet: len(g.m.Vars), api.ActItem: len(g.m.Vars), api.ActLocal: len(g.locals), api.ActSend: len(g.m.Chans), api.ActRecv: len(g.m.Chans)}[kind]
	if size == 0 {
		return a, false
	}
	a.To = g.Intn(size)
	switch kind {
	case api.ActSet, api.ActItem:
		v := g.m.Vars[a.To]
		if (kind == api.ActItem) != (v.Over > 0) {
			return a, false
		}
		if v.Over > 0 {
			a.Index = g.expression(1+v.Over, g.Intn(2))
		}
		a.Value = g.expression(kindOf(v.Scalar), g.Intn(4))
	case api.ActLocal:
		a.Value = g.expression(kindOf(g.locals[a.To].Scalar), g.Intn(4))
	default:
		scalar := g.m.Chans[a.To].Scalar
		if *comm {
			return a, false
		}
		if kind == api.ActSend {
			a.Value = g.expression(kindOf(scalar), g.Intn(4))
		} else {
			a.Local = slices.IndexFunc(g.locals, func(v api.Var) bool { return v.Scalar == scalar })
			if a.Local < 0 {
				return a, false
			}
		}
		*comm = true
	}
	return a, true
}

// grow: a model by chance; it is one that may be but for how long and deep its expressions are, and how many instances and cells there are.
func (g *grown) grow() api.Model {
	names := []string{"over", "of", "lossy", "fair", "cmd", "proc", "var", "set", "put", "when", "A", "b9", "C_", "aaaaaaaaaaaaaaaa"}
	next := func(sort string) string {
		if g.Intn(3) > 0 || len(names) == 0 {
			return sort + strconv.Itoa(g.Intn(1<<30))
		}
		i := g.Intn(len(names))
		name := names[i]
		names = slices.Delete(names, i, i+1)
		return name
	}
	g.m, g.locals, g.self = api.Model{}, nil, 0
	for range g.Intn(3) {
		g.m.Scalars = append(g.m.Scalars, api.Scalar{Name: next("S"), Size: 1 + g.Intn(4)})
	}
	for range g.Intn(5) {
		v := g.variable(next("v"))
		v.Over = g.Intn(1 + len(g.m.Scalars))
		g.m.Vars = append(g.m.Vars, v)
	}
	for range g.Intn(4) {
		v := g.variable(next("c"))
		g.m.Chans = append(g.m.Chans, api.Chan{Name: v.Name, Scalar: v.Scalar, Cap: 1 + g.Intn(4), Lo: v.Lo, Hi: v.Hi, Lossy: g.Intn(2) == 0})
	}
	for range g.Intn(4) {
		g.m.Procs = append(g.m.Procs, api.Proc{Name: next("P"), Over: g.Intn(1 + len(g.m.Scalars)), Locs: 1 + g.Intn(12)})
	}
	for i := range g.m.Procs {
		p := &g.m.Procs[i]
		for range g.Intn(3) {
			p.Vars = append(p.Vars, g.variable(next("l")))
		}
		g.locals, g.self = p.Vars, p.Over
		for j := range g.Intn(5) {
			p.Cmds = append(p.Cmds, g.command("go"+strconv.Itoa(j), p.Locs))
		}
	}
	g.locals, g.self = nil, 0
	for range g.Intn(4) {
		g.m.Props = append(g.m.Props, api.Prop{Name: next("p"), Expr: g.expression(1, g.Intn(4))})
	}
	return g.m
}

func (g *grown) command(name string, locs int) api.Cmd {
	c := api.Cmd{Name: name, From: g.Intn(locs), To: g.Intn(locs), Fair: g.Intn(2) == 0}
	if g.Intn(2) == 0 {
		c.Guard = g.expression(1, g.Intn(4))
	}
	comm := false
	for range g.Intn(6) {
		if a, is := g.act(&comm); is {
			c.Acts = append(c.Acts, a)
		}
	}
	return c
}

// P16.1, P16.2, P16.3: grown models, there and back; some of their texts spoilt.
func TestGrownModels(t *testing.T) {
	g := &grown{Rand: rand.New(rand.NewSource(17))}
	may := 0
	for range 6000 {
		m := g.grow()
		s, f := mtext.Text(m)
		if want := model.Check(m); f != want || (want.Why != api.OK) != (s == "" && len(m.Scalars)+len(m.Vars)+len(m.Chans)+len(m.Procs)+len(m.Props) > 0) {
			t.Fatal(f, want, s)
		}
		if f.Why != api.OK {
			continue
		}
		may++
		got, at, why := mtext.Parse(s)
		if !same(got, m) || at != 0 || why != api.OK {
			t.Fatalf("Parse is %+v, %d, %v, not %+v, of\n%s", got, at, why, m, s)
		}
		as(t, s)
		as(t, spoiltText(s, g.Rand))
	}
	if may < 3000 {
		t.Error("too few that may be:", may)
	}
}
