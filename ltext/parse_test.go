package ltext_test

import (
	"math/rand"
	"slices"
	"strings"
	"testing"

	"lariat/api"
	"lariat/lex"
	"lariat/ltext"
)

// wrong: Parse tells that place in the text, and why.
func wrong(t *testing.T, names []string, of string, wantAt int, want api.Errno) {
	t.Helper()
	f, at, why := ltext.Parse(of, names)
	if len(f) != 0 || at != wantAt || why != want {
		t.Errorf("Parse(%q) = %v, %d, %v, not %d, %v", of[:min(len(of), 60)], f[:min(len(f), 60)], at, why, wantAt, want)
	}
}

// refusal: the token at which what is read can't go on; its place is that of the end, if there is none.
type refusal struct {
	at  int
	why api.Errno
}

// descent: the chapter's grammar, read by going down into joints. It panics with a refusal.
type descent struct {
	tokens []lex.Token
	end    int
	names  []string
	nodes  []api.Node
}

// known: the place of the name among the first MaxProps, if it may be there.
func (d *descent) known(name string) (int, bool) {
	for at, x := range d.names {
		if at < 8 && x == name && lex.Name(x) && !reserved(x) && !slices.Contains(d.names[:at], x) {
			return at, true
		}
	}
	return 0, false
}

func reserved(word string) bool {
	return slices.Contains([]string{"true", "false", "X", "F", "G", "U", "R"}, word)
}

// next: the text of the next token; none, if there is none.
func (d *descent) next() string {
	if len(d.tokens) == 0 {
		return ""
	}
	return d.tokens[0].Text
}

func (d *descent) refuse() {
	if len(d.tokens) == 0 {
		panic(refusal{d.end, api.ErrShort})
	}
	t := d.tokens[0]
	if _, is := d.known(t.Text); t.Kind == lex.Word && !reserved(t.Text) && !is {
		panic(refusal{t.At, api.ErrNone})
	}
	panic(refusal{t.At, api.ErrForm})
}

func (d *descent) take() {
	d.tokens = d.tokens[1:]
}

func (d *descent) add(op, n int) {
	d.nodes = append(d.nodes, api.Node{Op: op, N: n})
}

func (d *descent) joint(level int) {
	if level == 5 {
		d.tight()
		return
	}
	ops := []map[string]int{1: {"=>": api.FImp}, 2: {"||": api.FOr}, 3: {"&&": api.FAnd}, 4: {"U": api.FUntil, "R": api.FRel}}[level]
	d.joint(level + 1)
	for ops[d.next()] != 0 {
		op := ops[d.next()]
		d.take()
		if level == 1 || level == 4 {
			d.joint(level)
		} else {
			d.joint(level + 1)
		}
		d.add(op, 0)
	}
}

func (d *descent) tight() {
	one := map[string]int{"!": api.FNot, "X": api.FNext, "F": api.FFin, "G": api.FGlob}
	word := d.next()
	at, is := d.known(word)
	switch {
	case word == "true" || word == "false":
		d.take()
		d.add(map[string]int{"true": api.FTrue, "false": api.FFalse}[word], 0)
	case is:
		d.take()
		d.add(api.FProp, at)
	case one[word] != 0:
		d.take()
		d.joint(5)
		d.add(one[word], 0)
	case word == "(":
		d.take()
		d.joint(1)
		if d.next() != ")" {
			d.refuse()
		}
		d.take()
	default:
		d.refuse()
	}
}

// parsed: what the chapter's words say of the text.
func parsed(of string, names []string) (f []api.Node, at int, why api.Errno) {
	tokens, at, why := lex.Scan(of)
	if why != api.OK {
		return nil, at, why
	}
	defer func() {
		if x := recover(); x != nil {
			f, at, why = nil, x.(refusal).at, x.(refusal).why
		}
	}()
	d := &descent{tokens: tokens, end: len(of), names: names}
	d.joint(1)
	if len(d.tokens) > 0 {
		d.refuse()
	}
	if len(d.nodes) > 24 {
		return nil, len(of), api.ErrLong
	}
	want := textOf(d.nodes, names)
	for i := range max(len(want), len(of)) {
		if i >= len(want) || i >= len(of) || want[i] != of[i] {
			return nil, i, api.ErrText
		}
	}
	return d.nodes, 0, api.OK
}

// held: Parse tells of the text what the chapter's words say.
func held(t *testing.T, names []string, of string) {
	t.Helper()
	want, wantAt, wantWhy := parsed(of, names)
	f, at, why := ltext.Parse(of, names)
	if !slices.Equal(f, want) || at != wantAt || why != wantWhy {
		t.Fatalf("Parse(%q) = %v, %d, %v, not %v, %d, %v", of, f, at, why, want, wantAt, wantWhy)
	}
}

// P24.2: lex's errors come ahead of all others.
func TestLexFirst(t *testing.T) {
	names := theNames()
	wrong(t, names, ") = p", 2, api.ErrText)
	wrong(t, names, "z p = q", 4, api.ErrText)
	wrong(t, names, "z 007", 2, api.ErrRange)
	wrong(t, names, "p U 1048577", 4, api.ErrRange)
	wrong(t, names, "( abcdefghijklmnopq", 2, api.ErrName)
	wrong(t, names, "p &", 2, api.ErrText)
	wrong(t, names, "p | q", 2, api.ErrText)
	wrong(t, names, "p\t", 1, api.ErrText)
	wrong(t, names, strings.Repeat("p", api.MaxText+1), 0, api.ErrLong)
	wrong(t, names, strings.Repeat(") ", api.MaxTokens)+")", 2*api.MaxTokens, api.ErrMany)
	wrong(t, names, strings.Repeat(") ", api.MaxTokens), 0, api.ErrForm)
}

// P24.2: the token that may not stand there.
func TestForm(t *testing.T) {
	for of, at := range map[string]int{
		")": 0, "U": 0, "R p": 0, "&& p": 0, "=> p": 0, "() p": 1, "(U)": 1, "p )": 2, "(p))": 3, "p p": 2, "p q r": 2, "p true": 2, "p !q": 2, "p ! q": 2, "p X q": 2, "true false": 5, "p (q)": 2, "(p) (q)": 4, "(p q)": 3,
		"p U U q": 4, "p && || q": 5, "p U )": 4, "X U p": 2, "X )": 2, "! && p": 2, "F => p": 2, "p 5": 2, "5": 0, "5 p": 0, "X 5": 2, "(5)": 1, "p == q": 2, "p := q": 2, "p + q": 2, "p <= q": 2, "p -> q": 2, "p[q]": 1, "{p}": 0, "p ; q": 2, "p, q": 1, "p @ q": 2, "p != q": 2, "- p": 0, "p?": 1,
		"p # all\n q": 9, "p U q q": 6, "!p !q": 3, "true true": 5, "X true true": 7, "(p U q) p": 8, "p => q => => r": 10,
	} {
		wrong(t, theNames(), of, at, api.ErrForm)
	}
}

// P24.2: words that are no names that may be, wherever they stand.
func TestNone(t *testing.T) {
	for of, at := range map[string]int{
		"z": 0, "p z": 2, "p U z": 4, "(z": 1, "(p z": 3, "(p) z": 4, "!z": 1, "X z": 2, "z z": 0, "z U": 0, "z )": 0, "P": 0, "x1": 0, "self": 0, "len": 0, "at": 0, "none": 0, "p self": 2, "p U none": 4, "Xp": 0, "XX p": 0, "True": 0, "t": 0, "pU q": 0, "p Uq": 2, "until": 0,
	} {
		wrong(t, theNames(), of, at, api.ErrNone)
	}
	raw := rawNames()
	for of, at := range map[string]int{"late": 0, "p late": 2, "self": 0, "r U late": 4, "x": 0} {
		wrong(t, raw, of, at, api.ErrNone)
	}
	wrong(t, raw, "p r", 2, api.ErrForm)
	wrong(t, raw, "p X", 2, api.ErrForm)
	wrong(t, raw, "2", 0, api.ErrForm)
	wrong(t, raw, "X", 1, api.ErrShort)
	wrong(t, nil, "p", 0, api.ErrNone)
	wrong(t, nil, "true p", 5, api.ErrNone)
	wrong(t, []string{"a", "b", "c", "d", "e", "f", "g", "h", "p"}, "p", 0, api.ErrNone)
	wrong(t, []string{"a", "b", "c", "d", "e", "f", "g", "h", "p"}, "h p", 2, api.ErrNone)
	text(t, []string{"a", "b", "c", "d", "e", "f", "g", "p", "p"}, "p", of(api.FProp, 7))
	text(t, []string{"p", "p", "p"}, "p", p())
	text(t, raw, "p U q U r", of(api.FProp, 1), of(api.FProp, 4), of(api.FProp, 7), of(api.FUntil), of(api.FUntil))
}

// P24.2: tokens that end too early.
func TestShort(t *testing.T) {
	for _, of := range []string{"", "  ", "\n", "# p", "p U", "p U ", "(", "((p)", "(p", "( p # )\n ", "!", "X", "X # q", "G", "! !", "p &&", "p ||\n", "p =>", "p U (q", "p U q R", "X F G", "(p U q", "!("} {
		wrong(t, theNames(), of, len(of), api.ErrShort)
	}
}

// P24.2: formulas of more than MaxForm nodes, whatever their texts.
func TestLong(t *testing.T) {
	names := theNames()
	for _, of := range []string{strings.Repeat("!", 24) + "p", strings.Repeat("p && ", 12) + "p", strings.Repeat("p&&", 12) + "p", strings.Repeat("p U ", 12) + "p  ", strings.Repeat("(", 9) + strings.Repeat("X ", 24) + "p" + strings.Repeat(")", 9)} {
		wrong(t, names, of, len(of), api.ErrLong)
	}
	wrong(t, names, strings.Repeat("!", 24)+"z", 24, api.ErrNone)
	wrong(t, names, strings.Repeat("!", 24)+"p p", 26, api.ErrForm)
	wrong(t, names, strings.Repeat("!", 24)+"p U", 27, api.ErrShort)
	text(t, names, strings.Repeat("p && ", 11)+"!p", append(append(list(p()), slices.Repeat(list(p(), of(api.FAnd)), 10)...), p(), of(api.FNot), of(api.FAnd))...)
}

// P24.2: the first byte in which the text that is read and the one of the formula differ.
func TestParting(t *testing.T) {
	for of, at := range map[string]int{
		"p U (q U r)": 4, "p  U q": 2, "p U  q": 4, " p": 0, "p ": 1, "p\n": 1, "p # all": 1, "# no\np": 0, "(p)": 0, "((p))": 0, "p&&q": 1, "p &&q": 4, "p\nU q": 1, "! p": 1, "!(p)": 1, "!(!p)": 1, "X  p": 2, "X\np": 1, "X(p)": 1, "X (p)": 2, "(X p)": 0, "(p U q)": 0, "(p && q) && r": 0, "(p U q) && r": 0,
		"p && (q U r)": 5, "p || (q && r)": 5, "p => (q => r)": 5, "p => (q || r)": 5, "(p || q) => r": 0, "G (p)": 2, "G p=>q": 3, "p U q ": 5, "p U !(q)": 5, "(!p) U q": 0, "p && q  && r": 7, "X (X p)": 2, "true ": 4, "(true)": 0, "p U (q)": 4, "((p => q)) => r": 1, "(p => (q)) => r": 6,
		strings.Repeat("(", 2000) + "p" + strings.Repeat(")", 2000): 0, "p" + strings.Repeat(" ", api.MaxText-1): 1,
	} {
		wrong(t, theNames(), of, at, api.ErrText)
	}
}

// P24.2, G7: texts as deep and as long as tokens go.
func TestDeep(t *testing.T) {
	names := theNames()
	const most = api.MaxTokens
	wrong(t, names, strings.Repeat("(", most), most, api.ErrShort)
	wrong(t, names, strings.Repeat("!", most), most, api.ErrShort)
	wrong(t, names, strings.Repeat("!", most-1)+"p", most, api.ErrLong)
	wrong(t, names, strings.Repeat("(", most/2)+"p"+strings.Repeat(")", most/2-1), most, api.ErrShort)
	wrong(t, names, strings.Repeat("(", most/2-1)+"p"+strings.Repeat(")", most/2-1), 0, api.ErrText)
	wrong(t, names, strings.Repeat("(", most/2-1)+"p"+strings.Repeat(")", most/2), most-1, api.ErrForm)
	for _, sign := range []string{"U", "R", "&&", "||", "=>"} {
		step := "p " + sign + " "
		whole := strings.Repeat(step, most/2-1) + "p"
		wrong(t, names, whole, len(whole), api.ErrLong)
		wrong(t, names, strings.Repeat(step, most/2), len(step)*(most/2), api.ErrShort)
		wrong(t, names, strings.Repeat(step, most/2-1)+"z", len(whole)-1, api.ErrNone)
		step = "p" + sign + "("
		if sign == "U" || sign == "R" {
			step = "p " + sign + "("
		}
		whole = strings.Repeat(step, most/4-1) + "p" + strings.Repeat(")", most/4-1)
		wrong(t, names, whole, len(whole), api.ErrLong)
		wrong(t, names, whole[:len(whole)-1], len(whole)-1, api.ErrShort)
		wrong(t, names, whole+")", len(whole), api.ErrForm)
	}
}

// P24.2: all short rows of tokens.
func TestRows(t *testing.T) {
	all := []string{"p", "q", "z", "self", "true", "5", "!", "X", "U", "R", "&&", "||", "=>", "(", ")", "=="}
	few := []string{"p", "!", "U", "R", "&&", "||", "=>", "(", ")"}
	var rows func(tokens []string, count int, row string)
	rows = func(tokens []string, count int, row string) {
		held(t, theNames(), row)
		if count == 0 {
			return
		}
		for _, x := range tokens {
			rows(tokens, count-1, strings.TrimPrefix(row+" "+x, " "))
		}
	}
	rows(all, 4, "")
	rows(few, 6, "")
}

// P24.2: texts of grown formulas, whole and spoilt, with names that may be and that may not.
func TestSpoilt(t *testing.T) {
	c := chance(2024)
	by := rand.New(rand.NewSource(24))
	pieces := []string{" ", "(", ")", "!", "X ", " U ", " R ", " && ", " || ", " => ", "p", "q", "z", "true", "0", "\n", "#", "=", "late", "self", "(p)", "F", " G "}
	for i := range 60000 {
		names := theNames()
		s := textOf(grown(&c, 1+i%30), names)
		if i%3 == 0 {
			names = rawNames()
		}
		held(t, names, s)
		for range 1 + by.Intn(3) {
			at, end := by.Intn(len(s)+1), by.Intn(len(s)+1)
			switch at, end = min(at, end), max(at, end); by.Intn(5) {
			case 0:
				s = s[:at] + s[end:]
			case 1:
				s = s[:at] + "(" + s[at:end] + ")" + s[end:]
			case 2:
				s = s[:at] + s[end:] + s[at:end]
			default:
				s = s[:at] + pieces[by.Intn(len(pieces))] + s[at:]
			}
			held(t, names, s)
		}
	}
}
