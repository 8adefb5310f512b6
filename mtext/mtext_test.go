package mtext_test

import (
	"reflect"
	"slices"
	"strings"
	"testing"

	"lariat/api"
	"lariat/model"
	"lariat/mtext"
)

// The text of theModel.
const theText = `scalar S 2
scalar T 3
var x 0 3 1
var y over S -2 5 0
var o of S 0
var q over T of S 2
chan c 1 -1 3
chan d lossy 2 of T
proc P over S 3
local a 0 9 0
local e of T 1
cmd go fair 0 1
when y[self] < 3 && e != none(T)
set x x + 1
at self
put y y[self] + a
let a 4 - a
recv d e
cmd out 1 0
send c -x
proc Q 1
cmd idle 0 0
cmd stay fair 0 0
when len(c) == 0
prop p x == 1
prop r at(P, 1) == 2 || len(c) == 0
`

// n is a node.
func n(op int, of ...int) api.Node {
	if len(of) > 0 {
		return api.Node{Op: op, N: of[0]}
	}
	return api.Node{Op: op}
}

// theModel: one with all that a line can tell.
func theModel() api.Model {
	noMail := []api.Node{n(api.XLen, 0), n(api.XNum, 0), n(api.XEq)}
	item := []api.Node{n(api.XSelf), n(api.XItem, 1)}
	return api.Model{
		Scalars: []api.Scalar{{Name: "S", Size: 2}, {Name: "T", Size: 3}},
		Vars:    []api.Var{{Name: "x", Hi: 3, Init: 1}, {Name: "y", Over: 1, Lo: -2, Hi: 5}, {Name: "o", Scalar: 1}, {Name: "q", Over: 2, Scalar: 1, Init: 2}},
		Chans:   []api.Chan{{Name: "c", Cap: 1, Lo: -1, Hi: 3}, {Name: "d", Lossy: true, Cap: 2, Scalar: 2}},
		Procs: []api.Proc{
			{Name: "P", Over: 1, Locs: 3, Vars: []api.Var{{Name: "a", Hi: 9}, {Name: "e", Scalar: 2, Init: 1}}, Cmds: []api.Cmd{
				{Name: "go", Fair: true, To: 1, Guard: slices.Concat(item, []api.Node{n(api.XNum, 3), n(api.XLt), n(api.XLocal, 1), n(api.XNone, 1), n(api.XNe), n(api.XAnd)}), Acts: []api.Act{
					{Kind: api.ActSet, To: 0, Value: []api.Node{n(api.XVar, 0), n(api.XNum, 1), n(api.XAdd)}},
					{Kind: api.ActItem, To: 1, Index: []api.Node{n(api.XSelf)}, Value: slices.Concat(item, []api.Node{n(api.XLocal, 0), n(api.XAdd)})},
					{Kind: api.ActLocal, To: 0, Value: []api.Node{n(api.XNum, 4), n(api.XLocal, 0), n(api.XSub)}},
					{Kind: api.ActRecv, To: 1, Local: 1},
				}},
				{Name: "out", From: 1, Acts: []api.Act{{Kind: api.ActSend, To: 0, Value: []api.Node{n(api.XVar, 0), n(api.XNeg)}}}},
			}},
			{Name: "Q", Locs: 1, Cmds: []api.Cmd{{Name: "idle"}, {Name: "stay", Fair: true, Guard: noMail}}},
		},
		Props: []api.Prop{{Name: "p", Expr: []api.Node{n(api.XVar, 0), n(api.XNum, 1), n(api.XEq)}}, {Name: "r", Expr: slices.Concat([]api.Node{n(api.XAt, 1), n(api.XNum, 2), n(api.XEq)}, noMail, []api.Node{n(api.XOr)})}},
	}
}

// same: a and b say the same; a list of nothing may be nil or not.
func same(a, b any) bool {
	x, y := reflect.ValueOf(a), reflect.ValueOf(b)
	switch x.Kind() {
	case reflect.Slice:
		for i := range min(x.Len(), y.Len()) {
			if !same(x.Index(i).Interface(), y.Index(i).Interface()) {
				return false
			}
		}
		return x.Len() == y.Len()
	case reflect.Struct:
		for i := range x.NumField() {
			if !same(x.Field(i).Interface(), y.Field(i).Interface()) {
				return false
			}
		}
		return true
	}
	return reflect.DeepEqual(a, b)
}

// told: what Parse tells of a text that is none.
type told struct {
	at  int
	why api.Errno
}

func parse(t *testing.T, want told, s string) {
	t.Helper()
	m, at, why := mtext.Parse(s)
	if (told{at, why}) != want {
		t.Errorf("Parse = %d, %v, not %v, of\n%.900s", at, why, want, s)
	}
	if why != api.OK && !reflect.DeepEqual(m, api.Model{}) {
		t.Error("a model beside an error", m)
	}
}

// text: that of m, which is to have one.
func text(t *testing.T, m api.Model) string {
	t.Helper()
	s, f := mtext.Text(m)
	if f != (api.Fault{}) {
		t.Fatalf("Text tells %+v of %+v", f, m)
	}
	return s
}

// there: s is the text of m, both ways.
func there(t *testing.T, s string, m api.Model) {
	t.Helper()
	if got := text(t, m); got != s {
		t.Errorf("Text is\n%s\nnot\n%s", got, s)
	}
	got, at, why := mtext.Parse(s)
	if at != 0 || why != api.OK || !same(got, m) {
		t.Errorf("Parse is %+v, %d, %v, not %+v", got, at, why, m)
	}
}

// lines: a text of these lines, each with its end.
func lines(l ...string) string {
	return strings.Join(l, "\n") + "\n"
}

// P16.1, P16.2, P16.3
func TestThereAndBack(t *testing.T) {
	there(t, theText, theModel())
	there(t, "", api.Model{})
	there(t, "scalar S 4\n", api.Model{Scalars: []api.Scalar{{Name: "S", Size: 4}}})
	there(t, "var x -1048576 -1048576 -1048576\n", api.Model{Vars: []api.Var{{Name: "x", Lo: -api.MaxNum, Hi: -api.MaxNum, Init: -api.MaxNum}}})
	there(t, "chan c 4 1048576 1048576\n", api.Model{Chans: []api.Chan{{Name: "c", Cap: 4, Lo: api.MaxNum, Hi: api.MaxNum}}})
	there(t, "proc P 12\n", api.Model{Procs: []api.Proc{{Name: "P", Locs: 12}}})
	there(t, "prop p 0 == 0\n", api.Model{Props: []api.Prop{{Name: "p", Expr: []api.Node{n(api.XNum), n(api.XNum), n(api.XEq)}}}})
	there(t, lines("scalar S 1", "proc P over S 1", "cmd c 0 0"), api.Model{Scalars: []api.Scalar{{Name: "S", Size: 1}}, Procs: []api.Proc{{Name: "P", Over: 1, Locs: 1, Cmds: []api.Cmd{{Name: "c"}}}}})
}

// P16.1, P16.2: names may be the words of lines.
func TestWordsAsNames(t *testing.T) {
	there(t, lines("scalar over 2", "scalar of 3", "var var over over of of 3", "var when over of 0 1 0", "var set of over 1", "chan lossy lossy 2 0 1", "chan put 1 of of",
		"proc cmd over of 2", "local fair of over 0", "local let 0 1 1", "cmd fair fair 0 1", "when when[self] == 1", "at none(over)", "put var none(of)", "set set fair", "let fair set", "send put self", "cmd local 0 0", "recv lossy let",
		"prop prop len(lossy) < at(cmd, 0)"), api.Model{
		Scalars: []api.Scalar{{Name: "over", Size: 2}, {Name: "of", Size: 3}},
		Vars:    []api.Var{{Name: "var", Over: 1, Scalar: 2, Init: 3}, {Name: "when", Over: 2, Hi: 1}, {Name: "set", Scalar: 1, Init: 1}},
		Chans:   []api.Chan{{Name: "lossy", Lossy: true, Cap: 2, Hi: 1}, {Name: "put", Cap: 1, Scalar: 2}},
		Procs: []api.Proc{{Name: "cmd", Over: 2, Locs: 2, Vars: []api.Var{{Name: "fair", Scalar: 1}, {Name: "let", Hi: 1, Init: 1}}, Cmds: []api.Cmd{
			{Name: "fair", Fair: true, To: 1, Guard: []api.Node{n(api.XSelf), n(api.XItem, 1), n(api.XNum, 1), n(api.XEq)}, Acts: []api.Act{
				{Kind: api.ActItem, To: 0, Index: []api.Node{n(api.XNone, 0)}, Value: []api.Node{n(api.XNone, 1)}},
				{Kind: api.ActSet, To: 2, Value: []api.Node{n(api.XLocal, 0)}},
				{Kind: api.ActLocal, To: 0, Value: []api.Node{n(api.XVar, 2)}},
				{Kind: api.ActSend, To: 1, Value: []api.Node{n(api.XSelf)}},
			}},
			{Name: "local", Acts: []api.Act{{Kind: api.ActRecv, To: 0, Local: 1}}},
		}}},
		Props: []api.Prop{{Name: "prop", Expr: []api.Node{n(api.XLen, 0), n(api.XAt, 0), n(api.XLt)}}},
	})
}

// P16.1: what may not be has no text, but the fault of model.Check.
func TestNoText(t *testing.T) {
	for i, spoil := range []func(m *api.Model){
		func(m *api.Model) { m.Scalars[1].Size = 5 },
		func(m *api.Model) { m.Vars[2].Name = "S" },
		func(m *api.Model) { m.Chans[1].Scalar = 3 },
		func(m *api.Model) { m.Procs[0].Cmds[0].Acts[1].Index = nil },
		func(m *api.Model) { m.Procs[0].Vars[1].Name = "Q" },
		func(m *api.Model) { m.Procs[1].Over, m.Procs[1].Vars = 2, slices.Repeat(m.Procs[0].Vars[:1], 9) },
		func(m *api.Model) { m.Props[1].Expr = m.Props[0].Expr[:1] },
		func(m *api.Model) { m.Props[1].Name = "p" },
	} {
		m := theModel()
		spoil(&m)
		want := model.Check(m)
		if s, f := mtext.Text(m); s != "" || f != want || f.Why == api.OK {
			t.Error(i, s, f, want)
		}
	}
	if s, f := mtext.Text(api.Model{Props: make([]api.Prop, 2)}); s != "" || f != (api.Fault{Why: api.ErrName, Part: 5}) {
		t.Error(s, f)
	}
}

// P16.1, P16.3: fields that say nothing leave no trace in a text.
func TestFieldsThatSayNothing(t *testing.T) {
	m := theModel()
	m.Vars[2].Lo, m.Vars[2].Hi, m.Vars[3].Hi = 7, -7, 99
	m.Chans[1].Lo, m.Chans[1].Hi = 5, 4
	p := &m.Procs[0]
	p.Vars[1].Lo, p.Vars[1].Hi = -3, 1<<40
	junk := []api.Node{n(99, 9), n(api.XVar, 77)}
	acts := p.Cmds[0].Acts
	acts[0].Local, acts[0].Index = 9, junk
	acts[1].Local = -9
	acts[2].Local, acts[2].Index = 1<<60, junk
	acts[3].Index, acts[3].Value = junk, junk
	p.Cmds[1].Acts[0].Local, p.Cmds[1].Acts[0].Index = 4, junk
	p.Cmds[0].Guard[0].N, p.Cmds[0].Guard[3].N = 8, -8
	m.Procs[1].Vars, m.Procs[1].Cmds[0].Guard, m.Procs[1].Cmds[0].Acts = []api.Var{}, []api.Node{}, []api.Act{}
	if s := text(t, m); s != theText {
		t.Error(s)
	}
}

// The example.
func TestExample(t *testing.T) {
	s := lines("scalar S 2", "var x over S 0 3 1", "proc P over S 1", "cmd go fair 0 0", "at self", "put x x[self] + 1", "prop p x[self] == 0")
	parse(t, told{6, api.ErrNone}, s)
	parse(t, told{}, strings.TrimSuffix(s, "prop p x[self] == 0\n"))
}

// head: lines that may stand ahead of others, of each sort one.
func head(more ...string) string {
	return lines(append([]string{"scalar S 2", "var x 0 3 1", "var y over S of S 0", "chan c 1 0 3", "proc P over S 2", "local a 0 3 0", "cmd go 0 1"}, more...)...)
}

// headLines: how many lines head has by itself.
const headLines = 7

// rightLines: one of each form there is; expressions are the last fields of the last six.
func rightLines() []string {
	return []string{
		"scalar T 1", "var z 0 1 0", "var z over S 0 1 0", "var z of S 0", "var z over S of S 0", "chan d 1 0 1", "chan d lossy 1 0 1", "chan d 1 of S", "chan d lossy 1 of S", "proc Q 1", "proc Q over S 1",
		"local b 0 1 0", "local b of S 0", "cmd on 0 0", "cmd on fair 0 0", "recv c a", "let a a", "set x 1", "send c 1 + 1", "when 1 == 1", "at self", "prop p x < 1",
	}
}

// P16.2: fields that a line lacks, that are too many, or of another sort.
func TestFields(t *testing.T) {
	// What may be there need not be; its word may be a name.
	rightToo := append(rightLines(), "chan lossy 1 0 1", "chan lossy 1 of S", "cmd fair 0 0")
	ahead := map[string]string{"scalar": "", "var": "scalar S 2\n", "chan": "scalar S 2\n", "proc": "scalar S 2\n", "local": "scalar S 2\nproc P 1\n"}
	for i, right := range rightLines() {
		word, rest, _ := strings.Cut(right, " ")
		s, is := ahead[word]
		if !is {
			s = head()
		}
		end := "\n"
		if word == "at" {
			end = "\nput y self\n"
		}
		parse(t, told{}, s+right+end)
		wrong := []string{word, word + " ", " " + right, right[1:], strings.ToUpper(word) + " " + rest, word + "s " + rest, "\t" + right, word + "\t" + rest}
		if i < len(rightLines())-6 {
			wrong = append(wrong, spoiltFields(strings.Split(right, " "))...)
		} else if word != "when" && word != "at" { // a name, and nothing behind it
			name, _, _ := strings.Cut(rest, " ")
			wrong = append(wrong, word+" "+name, word+" "+name+" ")
		}
		for _, w := range wrong {
			if !slices.Contains(rightToo, w) {
				parse(t, told{strings.Count(s, "\n"), api.ErrForm}, s+w+end)
			}
		}
	}
}

// spoiltFields: lines that have fewer fields, more of them, or one that is no number.
func spoiltFields(l []string) []string {
	var wrong []string
	for i := range l {
		wrong = append(wrong, strings.Join(l[:i], " "))
		for _, other := range [][]string{{}, {l[i], ""}, {"", l[i]}, {l[i], "0"}, {"0", l[i]}} {
			wrong = append(wrong, strings.Join(slices.Concat(l[:i], other, l[i+1:]), " "))
		}
		if isName := i == 1 || l[0] == "recv" || i > 1 && (l[i-1] == "of" || l[i-1] == "over"); !isName {
			for _, other := range []string{"", "?", l[i] + "\t", "\t" + l[i]} {
				wrong = append(wrong, strings.Join(slices.Concat(l[:i], []string{other}, l[i+1:]), " "))
			}
		}
	}
	return wrong
}

// P16.2: numbers are those that num takes.
func TestNumbers(t *testing.T) {
	for _, x := range []string{"", "-", "+1", "01", "-0", "00", "1.", "1e3", "0x1", "1048577", "-1048577", "99999999", "9223372036854775808", "a", "1_0", "\u0661"} {
		for _, l := range []string{"scalar T N", "var z N 1 0", "var z 0 N 0", "var z 0 1 N", "var z of S N", "var z over S 0 0 N", "chan d N 0 1", "chan d 1 N 1", "chan d lossy 1 0 N", "chan d N of S", "proc Q N", "proc Q over S N"} {
			parse(t, told{1, api.ErrForm}, lines("scalar S 2", strings.Replace(l, "N", x, 1)))
		}
		for _, l := range []string{"local b N 1 0", "local b 0 N 0", "local b 0 1 N", "local b of S N", "cmd on N 0", "cmd on 0 N", "cmd on fair 0 N"} {
			parse(t, told{2, api.ErrForm}, lines("scalar S 2", "proc P 1", strings.Replace(l, "N", x, 1)))
		}
	}
	// Those that it takes are told of by the model.
	for _, x := range []string{"-1", "9", "1048576", "-1048576"} {
		parse(t, told{1, api.ErrRange}, lines("scalar T "+x))
		parse(t, told{1, api.ErrRange}, lines("chan c "+x+" 0 0"))
		parse(t, told{2, api.ErrRange}, lines("proc P 1", "cmd c 0 "+x))
	}
}

// P16.2: a word stands only behind those that it may stand behind.
func TestStands(t *testing.T) {
	after := map[string]string{ // of each word a beginning that ends with its line
		"":       "",
		"scalar": "scalar S 2\n",
		"var":    "scalar S 2\nvar y over S 0 1 0\n",
		"chan":   "scalar S 2\nchan c 1 0 1\n",
		"proc":   "scalar S 2\nvar y over S 0 1 0\nchan c 1 0 1\nproc P over S 1\n",
		"prop":   "prop p 1 == 1\n",
	}
	after["local"] = after["proc"] + "local a 0 1 0\n"
	after["cmd"] = after["local"] + "cmd go 0 0\n"
	after["when"] = after["cmd"] + "when 1 == 1\n"
	after["at"] = after["cmd"] + "at self\n"
	after["put"] = after["at"] + "put y 1\n"
	after["set"] = "var x 0 1 0\nproc P 1\ncmd go 0 0\nset x 0\n"
	after["let"] = after["cmd"] + "let a 0\n"
	after["send"] = after["cmd"] + "send c 0\n"
	after["recv"] = after["cmd"] + "recv c a\n"
	next := map[string]string{"scalar": "scalar Z 2", "var": "var z 0 1 0", "chan": "chan z 1 0 1", "proc": "proc Z 1", "prop": "prop z 1 == 1", "local": "local z 0 1 0", "cmd": "cmd z 0 0", "when": "when 1 < 1", "at": "at self", "put": "put y 1", "set": "set y 1", "let": "let a 0", "send": "send c 1", "recv": "recv c a"}
	within := " cmd when set put let send recv "
	may := map[string]string{
		"local": " proc local ", "cmd": " proc local" + within, "when": " cmd ", "put": " at ", "set": within, "at": within, "let": within, "send": within, "recv": within,
		"scalar": "  scalar ", "var": "  scalar var ", "chan": "  scalar var chan ", "proc": "  scalar var chan proc local" + within, "prop": "  scalar var chan proc prop local" + within,
	}
	for ahead, s := range after {
		for word, line := range next {
			at := strings.Count(s, "\n")
			is := strings.Contains(may[word], " "+ahead+" ")
			for _, more := range []string{"\n", ""} {
				_, got, why := mtext.Parse(s + line + more)
				if refused := got == at && why == api.ErrForm; refused == is {
					t.Errorf("%s behind %s: %d, %v", word, ahead, got, why)
				}
			}
		}
	}
	for _, word := range []string{"over", "of", "lossy", "fair", "self", "", "Scalar", "props"} {
		for _, s := range after {
			parse(t, told{strings.Count(s, "\n"), api.ErrForm}, s+word+" S 2\n")
			parse(t, told{strings.Count(s, "\n"), api.ErrForm}, s+word+"\n")
		}
	}
}

// P16.2: no line of the row behind one that comes later, whatever stands between.
func TestRow(t *testing.T) {
	row := []string{"scalar", "var", "chan", "proc", "prop"}
	line := func(word, name string) string {
		return map[string]string{"scalar": "scalar N 2", "var": "var N 0 1 0", "chan": "chan N 1 0 1", "proc": "proc N 1", "prop": "prop N 1 == 1"}[word] + "\n"
	}
	named := func(word, name string) string { return strings.Replace(line(word, name), "N", name, 1) }
	for i, a := range row {
		for j, b := range row {
			for k, c := range row {
				s := named(a, "A") + named(b, "B") + named(c, "C")
				switch {
				case j < i:
					parse(t, told{1, api.ErrForm}, s)
				case k < j:
					parse(t, told{2, api.ErrForm}, s)
				default:
					want := told{}
					if c == "scalar" { // three of them
						want = told{3, api.ErrMany}
					}
					parse(t, want, s)
				}
			}
		}
	}
	// A process is not forgotten over its commands.
	for i, word := range row {
		s := "proc P 1\nlocal a 0 1 0\ncmd go 0 0\nwhen 1 == 1\nlet a 1\n" + named(word, "Z")
		if i < 3 {
			parse(t, told{5, api.ErrForm}, s)
		} else {
			parse(t, told{}, s)
		}
	}
}

// P16.2: names that none of those in lines ahead has.
func TestNone(t *testing.T) {
	for _, l := range []string{"var z over T 0 1 0", "var z of T 0", "var z over T of S 0", "var z over S of T 0", "var z over x 0 1 0", "var z over z 0 1 0", "var z over  0 1 0", "var z of  0", "chan d 1 of T", "chan d lossy 1 of x", "proc Q over T 1", "proc Q over x 1", "proc Q over Q 1"} {
		parse(t, told{2, api.ErrNone}, lines("scalar S 2", "var x 0 1 0", l))
		parse(t, told{2, api.ErrNone}, lines("scalar S 2", "var x 0 1 0", l, "scalar T 2"))
	}
	for _, l := range []string{"set z 1", "set a 1", "set c 1", "set S 1", "set P 1", "set  1", "let b 1", "let x 1", "let c 1", "send d 1", "send x 1", "send a 1", "recv d a", "recv c b", "recv c x", "recv a c", "recv d b", "recv  a", "recv c "} {
		parse(t, told{headLines, api.ErrNone}, head(l))
		parse(t, told{headLines, api.ErrNone}, head(l, "?"))
	}
	for _, l := range []string{"put z self", "put a self", "put c self", "put  self"} {
		parse(t, told{headLines + 1, api.ErrNone}, head("at self", l))
	}
	for _, l := range []string{"local b of T 0", "local b of x 0", "local b of a 0"} {
		parse(t, told{3, api.ErrNone}, lines("scalar S 2", "proc P 1", "local a 0 1 0", l))
	}
	// A local is of the process, not of one ahead of it.
	parse(t, told{headLines + 2, api.ErrNone}, head("proc Q 1", "cmd go 0 0", "let a 1"))
	parse(t, told{headLines + 2, api.ErrNone}, head("proc Q 1", "cmd go 0 0", "recv c a"))
	parse(t, told{}, head("proc Q 1", "local a 0 1 0", "cmd go 0 0", "let a 1"))
	// A form that is wrong is told ahead of a name that is none's, in one line.
	for _, l := range []string{"var z over T", "var z over T 0 1", "var z over T 0 1 0 0", "var z over T of S", "var z over T of S x", "var z of T 0 0", "chan d 1 of T 0", "proc Q over T", "proc Q over T x"} {
		parse(t, told{1, api.ErrForm}, lines("scalar S 2", l))
	}
	for _, l := range []string{"set z", "set z ", "let b", "send d", "recv d", "recv d b c", "recv d b "} {
		parse(t, told{headLines, api.ErrForm}, head(l))
	}
	parse(t, told{0, api.ErrForm}, lines("set z 1"))
}

// P16.2: a name that several have is that of the first, till the model is told of.
func TestNamesOfSeveral(t *testing.T) {
	parse(t, told{4, api.ErrTwice}, lines("scalar S 2", "scalar S 3", "var x over S 0 1 0", "prop p x[none(S)] == 1"))
	parse(t, told{6, api.ErrTwice}, lines("var x 0 1 0", "var x 0 1 0", "proc P 1", "cmd go 0 0", "when x == 1", "set x x"))
	parse(t, told{6, api.ErrTwice}, lines("scalar S 2", "var x over S 0 1 0", "var x 0 1 0", "proc P over S 1", "cmd go 0 0", "when x[self] == 1"))
	parse(t, told{5, api.ErrKind}, lines("scalar S 2", "var x over S 0 1 0", "var x 0 1 0", "proc P over S 1", "cmd go 0 0", "when x == 1"))
}

// P16.2: an at that is the last line, ahead of all expressions.
func TestLastAt(t *testing.T) {
	parse(t, told{headLines + 1, api.ErrForm}, head("at self"))
	parse(t, told{headLines + 2, api.ErrForm}, head("when z", "at self"))
	parse(t, told{headLines + 1, api.ErrForm}, strings.TrimSuffix(head("at z"), "\n"))
	parse(t, told{headLines + 1, api.ErrForm}, head("at self", ""))
	parse(t, told{headLines, api.ErrNone}, head("at z", "put y self"))
}

// P16.2: of all expressions the first that is wrong, in the scope that all lines make.
func TestExpressions(t *testing.T) {
	for _, x := range []struct {
		e   string
		why api.Errno
	}{{"z", api.ErrNone}, {"x  == 1", api.ErrText}, {"x ==", api.ErrForm}, {" x", api.ErrText}, {"x ", api.ErrText}, {" ", api.ErrForm}, {"  ", api.ErrForm}, {"$", api.ErrText}, {"(x)", api.ErrText}, {"x # no", api.ErrText}, {"at(P, 2)", api.ErrNone}, {"at(Q, 0)", api.ErrNone}, {"!x", api.ErrKind}, {"007", api.ErrRange}, {"x\t", api.ErrText}, {"len(x)", api.ErrNone}, {strings.Repeat("-", 30) + "x", api.ErrLong}, {strings.Repeat("b", 17), api.ErrName}, {strings.Repeat("x ", 9000), api.ErrMany}} {
		for _, l := range []string{"when ", "set x ", "let a ", "send c ", "prop p "} {
			parse(t, told{headLines, x.why}, head(l+x.e))
		}
		parse(t, told{headLines, x.why}, head("at "+x.e, "put y self"))
		parse(t, told{headLines + 1, x.why}, head("at self", "put y "+x.e))
		// Of several lines the first; lines that are wrong by themselves, wherever they are, come ahead.
		parse(t, told{headLines, x.why}, head("set x "+x.e, "let a 0", "send c z z"))
		parse(t, told{headLines + 1, x.why}, head("set x 0", "let a "+x.e, "send c z z"))
		parse(t, told{headLines + 2, api.ErrForm}, head("set x 0", "let a "+x.e, "?"))
		parse(t, told{headLines + 2, api.ErrNone}, head("set x 0", "let a "+x.e, "set z 0"))
	}
	parse(t, told{0, api.ErrMany}, "prop p "+strings.Repeat("-", api.MaxTokens)+"x\n")
	// A process may speak of those behind it, and of locations that those have; of its own locals, its own element.
	parse(t, told{}, head("when at(Q, 2) == 0", "proc Q 3"))
	parse(t, told{headLines, api.ErrNone}, head("when at(Q, 3) == 0", "proc Q 3"))
	parse(t, told{headLines + 2, api.ErrNone}, head("proc Q 1", "cmd go 0 0", "when a == 0"))
	parse(t, told{headLines + 2, api.ErrNone}, head("proc Q 1", "cmd go 0 0", "at self", "put y self"))
	parse(t, told{headLines, api.ErrNone}, head("prop p a == 0"))
	parse(t, told{headLines, api.ErrNone}, head("prop p y[self] == none(S)"))
	parse(t, told{}, head("prop p y[none(S)] == none(S)"))
	// Wrong places of two processes, and of a proposition: that of the first line.
	parse(t, told{headLines, api.ErrNone}, head("when b == 0", "proc Q 1", "cmd go 0 0", "when b == 0", "prop p b == 0"))
	parse(t, told{headLines + 2, api.ErrNone}, head("proc Q 1", "cmd go 0 0", "when b == 0", "prop p b == 0"))
}

// P16.2: the model's fault at the number of lines.
func TestModel(t *testing.T) {
	for _, x := range []struct {
		l   []string
		why api.Errno
	}{
		{[]string{"scalar  1"}, api.ErrName}, {[]string{"scalar self 1"}, api.ErrName}, {[]string{"scalar S\r 1"}, api.ErrName}, {[]string{"scalar S 0"}, api.ErrRange}, {[]string{"scalar S 1", "scalar T 1", "scalar U 1"}, api.ErrMany},
		{[]string{"scalar S 1", "var S 0 1 0"}, api.ErrTwice}, {[]string{"var x 0 256 0"}, api.ErrRange}, {[]string{"scalar S 2", "var x of S 3"}, api.ErrRange}, {[]string{"chan c 5 0 1"}, api.ErrRange}, {[]string{"chan c 1 1 0"}, api.ErrRange},
		{[]string{"proc P 13"}, api.ErrRange}, {[]string{"proc P 1", "cmd go 0 1"}, api.ErrRange}, {[]string{"proc P 1", "local P 0 0 0"}, api.ErrTwice}, {[]string{"proc P 1", "cmd go 0 0", "cmd go 0 0"}, api.ErrTwice},
		{[]string{"proc P 1", "cmd go 0 0", "when 1"}, api.ErrKind}, {[]string{"prop p 1"}, api.ErrKind}, {[]string{"prop p 0 == 0", "prop p 0 == 0"}, api.ErrTwice},
		{[]string{"chan c 1 0 1", "proc P 1", "cmd go 0 0", "send c 0", "send c 0"}, api.ErrTwice}, {slices.Repeat([]string{"proc P 1"}, 7), api.ErrTwice},
		{[]string{"scalar S 4", "proc A over S 1", "proc B over S 1", "proc C over S 1", "proc D 1"}, api.ErrMany},
	} {
		parse(t, told{len(x.l), x.why}, lines(x.l...))
		parse(t, told{len(x.l), x.why}, strings.TrimSuffix(lines(x.l...), "\n"))
	}
}

// P16.2: a text whose last line has no end, and lines of nothing.
func TestEnds(t *testing.T) {
	parse(t, told{25, api.ErrText}, strings.TrimSuffix(theText, "\n"))
	parse(t, told{0, api.ErrText}, "scalar S 2")
	parse(t, told{1, api.ErrText}, "scalar S 2\nvar x over S 0 1 0")
	parse(t, told{1, api.ErrForm}, "scalar S 2\n\n")
	parse(t, told{0, api.ErrForm}, "\n")
	parse(t, told{0, api.ErrForm}, "\nscalar S 2\n")
	parse(t, told{0, api.ErrForm}, " ")
	parse(t, told{0, api.ErrForm}, "\n\n")
	parse(t, told{1, api.ErrForm}, "scalar S 2\n\nvar x over S 0 1 0\n")
	parse(t, told{0, api.ErrForm}, "scalar S 2\r\n")
	parse(t, told{1, api.ErrForm}, "scalar S 2\n ")
	parse(t, told{0, api.ErrForm}, "\x00")
	parse(t, told{0, api.ErrForm}, "\xff\xfe scalar")
}

// longest: a model whose text has just MaxText bytes, and a name in it that may be longer.
func longest(t *testing.T) (api.Model, *string) {
	sum := slices.Concat([]api.Node{n(api.XVar, 0)}, slices.Repeat([]api.Node{n(api.XVar, 0), n(api.XAdd)}, 11))
	m := api.Model{Vars: []api.Var{{Name: "x"}}}
	for i := range api.MaxProcs {
		p := api.Proc{Name: "P" + string(rune('a'+i)), Locs: 1}
		for j := range api.MaxCmds {
			p.Cmds = append(p.Cmds, api.Cmd{Name: string(rune('a' + j))})
		}
		m.Procs = append(m.Procs, p)
	}
	left := func() int { return api.MaxText - len(text(t, m)) }
	act := api.Act{Kind: api.ActSet, Value: sum}
	size := len("set x " + strings.Repeat("x + ", 11) + "x\n")
	for at := 0; left() > size; at++ {
		c := &m.Procs[at%api.MaxProcs].Cmds[at/api.MaxProcs%api.MaxCmds]
		c.Acts = append(c.Acts, act)
	}
	for at := 0; left() > 0; at++ {
		m.Procs[0].Cmds[at%api.MaxCmds].Name += "z"
	}
	return m, &m.Procs[5].Cmds[11].Name
}

// P16.1, P16.2: texts of MaxText bytes, and of one more.
func TestLong(t *testing.T) {
	m, name := longest(t)
	s := text(t, m)
	if len(s) != api.MaxText {
		t.Fatal(len(s))
	}
	there(t, s, m)
	parse(t, told{0, api.ErrLong}, s+"\n")
	parse(t, told{0, api.ErrLong}, s+" ")
	count := strings.Count(s, "\n")
	parse(t, told{count - 1, api.ErrText}, s[:len(s)-1])
	ahead := "\ncmd " + *name + " 0 0\n"
	*name += "z"
	if got, f := mtext.Text(m); got != "" || f != (api.Fault{Why: api.ErrLong}) {
		t.Error(len(got), f)
	}
	at := strings.LastIndex(s, ahead)
	longer := s[:at] + "\ncmd " + *name + " 0 0\n" + s[at+len(ahead):]
	parse(t, told{0, api.ErrLong}, longer)
	// Without its last line's end it is not too long, but its model's text is.
	parse(t, told{count - 1, api.ErrText}, longer[:len(longer)-1])
	*name = "a"
	if got, f := mtext.Text(m); got != "" || f.Why != api.ErrTwice {
		t.Error(got, f)
	}
	parse(t, told{0, api.ErrLong}, strings.Repeat("?", api.MaxText+1))
	parse(t, told{0, api.ErrForm}, strings.Repeat("?", api.MaxText))
	parse(t, told{0, api.ErrForm}, strings.Repeat("\n", api.MaxText))
	parse(t, told{0, api.ErrForm}, strings.Repeat(" ", api.MaxText))
	parse(t, told{1818, api.ErrTwice}, strings.Repeat("scalar S 1\n", 1818))
}

// The rules that hold everywhere: what is answered is new, and nothing that is handed in is changed.
func TestNew(t *testing.T) {
	m := theModel()
	text(t, m)
	if !reflect.DeepEqual(m, theModel()) {
		t.Error("changed")
	}
	a, _, _ := mtext.Parse(theText)
	spoil(reflect.ValueOf(&a).Elem())
	if b, _, _ := mtext.Parse(theText); !same(b, theModel()) {
		t.Error("kept", b)
	}
	fresh, _, _ := mtext.Parse(theText)
	for i := range leaves(reflect.ValueOf(fresh)) {
		b, _, _ := mtext.Parse(theText)
		l := leaves(reflect.ValueOf(&b).Elem())
		if l[i].Kind() == reflect.Slice {
			continue
		}
		spoil(l[i])
		for j, x := range leaves(reflect.ValueOf(fresh)) {
			if j != i && x.Kind() != reflect.Slice && !reflect.DeepEqual(x.Interface(), l[j].Interface()) {
				t.Fatal("place", j, "is spoilt by place", i)
			}
		}
	}
}

// leaves: all numbers, texts, truths and lists that x leads to.
func leaves(x reflect.Value) []reflect.Value {
	var l []reflect.Value
	switch x.Kind() {
	case reflect.Struct:
		for i := range x.NumField() {
			l = append(l, leaves(x.Field(i))...)
		}
		return l
	case reflect.Slice:
		for i := range x.Len() {
			l = append(l, leaves(x.Index(i))...)
		}
	}
	return append(l, x)
}

// spoil changes each number and text that x leads to, and each list's room behind its end.
func spoil(x reflect.Value) {
	switch x.Kind() {
	case reflect.Struct:
		for i := range x.NumField() {
			spoil(x.Field(i))
		}
	case reflect.Slice:
		whole := x.Slice(0, x.Cap())
		for i := range whole.Len() {
			spoil(whole.Index(i))
		}
	case reflect.Int:
		x.SetInt(x.Int() + 1000)
	case reflect.String:
		x.SetString(x.String() + "spoilt")
	case reflect.Bool:
		x.SetBool(!x.Bool())
	}
}
