package lex_test

import (
	"math"
	"regexp"
	"slices"
	"strings"
	"testing"

	"lariat/api"
	"lariat/lex"
	"lariat/num"
)

const (
	letters = "abcdefghijklmnopqrstuvwxyzABCDEFGHIJKLMNOPQRSTUVWXYZ"
	digits  = "0123456789"
)

// signs: those that the chapter names, in its order.
func signs() []string {
	return strings.Fields("( ) [ ] { } ; , : . := == != < <= -> + - * ! ? && || => @")
}

func word(at int, s string) lex.Token {
	return lex.Token{Kind: lex.Word, At: at, Text: s}
}

func sign(at int, s string) lex.Token {
	return lex.Token{Kind: lex.Sign, At: at, Text: s}
}

func number(at, n int) lex.Token {
	return lex.Token{Kind: lex.Num, N: n, At: at, Text: num.Decimal(n)}
}

// short: the beginning of a text, as it is told of a test that fails.
func short(s string) string {
	return s[:min(len(s), 60)]
}

// few: the first of a list of tokens, as they are told of a test that fails.
func few(l []lex.Token) []lex.Token {
	return l[:min(len(l), 9)]
}

// tells: s has just these tokens.
func tells(t *testing.T, s string, want ...lex.Token) {
	t.Helper()
	got, at, why := lex.Scan(s)
	if !slices.Equal(got, want) || at != 0 || why != api.OK {
		t.Errorf("Scan(%q) = %v, %d, %v, not %v", short(s), few(got), at, why, few(want))
	}
}

// refuses: s is wrong at that byte.
func refuses(t *testing.T, s string, wantAt int, want api.Errno) {
	t.Helper()
	got, at, why := lex.Scan(s)
	if len(got) != 0 || at != wantAt || why != want {
		t.Errorf("Scan(%q) = %v, %d, %v, not %d, %v", short(s), few(got), at, why, wantAt, want)
	}
}

// P9.1: the example, and what stands between tokens.
func TestBetween(t *testing.T) {
	tells(t, "x:=y+12 # no", word(0, "x"), sign(1, ":="), word(3, "y"), sign(4, "+"), number(5, 12))
	tells(t, "")
	tells(t, " \n  \n")
	tells(t, "#")
	tells(t, "# all of it = \"no\" $ 007 # \t\r\x00 é \xff\xfe")
	tells(t, "a#b\nc", word(0, "a"), word(4, "c"))
	tells(t, "a # b # c\n\n# d\n e", word(0, "a"), word(16, "e"))
	tells(t, "#\n#\na#", word(4, "a"))
	tells(t, "#é\xff\xe2\nb", word(6, "b"))
	tells(t, " a  b\nc ", word(1, "a"), word(4, "b"), word(6, "c"))
	tells(t, "1 2\n3", number(0, 1), number(2, 2), number(4, 3))
	tells(t, "12#34\n56", number(0, 12), number(6, 56))
	tells(t, "<#\n<", sign(0, "<"), sign(3, "<"))
	for _, s := range []string{"\t", "\r", "\v", "\f", "\x00", "\x7f", "\u00a0", "\u2028", "\u3000", "\ufeff", "\u0085"} {
		refuses(t, "a"+s+"b", 1, api.ErrText)
		tells(t, "#"+s+"\nb", word(2+len(s), "b"))
	}
}

// P9.1
func TestWords(t *testing.T) {
	tells(t, "a_1__Z9_ b_", word(0, "a_1__Z9_"), word(9, "b_"))
	tells(t, "a1 1a", word(0, "a1"), number(3, 1), word(4, "a"))
	tells(t, "9a_9", number(0, 9), word(1, "a_9"))
	tells(t, "self none len at", word(0, "self"), word(5, "none"), word(10, "len"), word(14, "at"))
	for _, r := range letters {
		tells(t, string(r), word(0, string(r)))
	}
	for _, r := range letters + digits + "_" {
		tells(t, "b"+string(r), word(0, "b"+string(r)))
	}
	for at, s := range []string{"_", "a _a", "aé", "aａ", "a\xff", "a\xc3\nb", "éa"} {
		refuses(t, s, []int{0, 2, 1, 1, 1, 1, 0}[at], api.ErrText)
	}
	tells(t, letters[:api.MaxName]+" a123456789_1234_", word(0, letters[:api.MaxName]), word(17, "a123456789_1234_"))
	refuses(t, letters[:api.MaxName+1], 0, api.ErrName)
	refuses(t, "b "+letters[:api.MaxName+1]+" $", 2, api.ErrName)
	refuses(t, "1"+letters, 1, api.ErrName)
	refuses(t, "a123456789_12345_", 0, api.ErrName)
	refuses(t, strings.Repeat("x", api.MaxText), 0, api.ErrName)
}

// P9.1
func TestNumbers(t *testing.T) {
	for _, n := range []int{0, 1, 9, 10, 100, 999999, 1000000, api.MaxNum - 1, api.MaxNum} {
		tells(t, num.Decimal(n), number(0, n))
		tells(t, "-"+num.Decimal(n), sign(0, "-"), number(1, n))
	}
	for n := range 10 {
		tells(t, num.Decimal(n)+"+"+num.Decimal(10+n), number(0, n), sign(1, "+"), number(2, 10+n))
	}
	for _, s := range []string{"00", "007", "01", "1048577", "9999999", "00000000", "00000001", "10000000", "12345678", "9223372036854775807", "18446744073709551617", strings.Repeat("1", api.MaxText-4)} {
		refuses(t, s, 0, api.ErrRange)
		refuses(t, " "+s+" $", 1, api.ErrRange)
	}
	refuses(t, "1 02", 2, api.ErrRange)
	refuses(t, "02a", 0, api.ErrRange)
	refuses(t, "a-02", 2, api.ErrRange)
	refuses(t, "1٣", 1, api.ErrText)
}

// P9.1: of two signs that begin at one byte it is the longer one.
func TestSigns(t *testing.T) {
	for _, s := range signs() {
		tells(t, s, sign(0, s))
		tells(t, "a"+s+"b", word(0, "a"), sign(1, s), word(1+len(s), "b"))
		tells(t, "1"+s+"2", number(0, 1), sign(1, s), number(1+len(s), 2))
	}
	for _, row := range []string{"<= ==", ":= ==", ": :=", "!= ==", "! !=", "- ->", "< ->", "< <=", "=> ==", "=> =>", "&& &&", "|| ||", "( ) [ ] { } ; , . + * ? @"} {
		var want []lex.Token
		at := 0
		for _, s := range strings.Fields(row) {
			want = append(want, sign(at, s))
			at += len(s)
		}
		tells(t, strings.ReplaceAll(row, " ", ""), want...)
	}
	for s, at := range map[string]int{
		"=": 0, "= =": 0, "&": 0, "& &": 0, "|": 0, "|a|": 0, ">": 0, "$": 0, "~": 0, "%": 0, "^": 0, "/": 0, "\\": 0, "\"a\"": 0, "'a'": 0, "`": 0,
		"a=1": 1, "a&b": 1, "-|": 1, ",>": 1,
		"===": 2, "==>": 2, "<=>": 2, "<==": 2, ":==": 2, "!==": 2, "->>": 2, "=>=": 2, "&&&": 2, "|||": 2, "- >": 2, ": =": 2, "! =": 2, "< =": 2, "a = b": 2,
	} {
		refuses(t, s, at, api.ErrText)
	}
}

// P9.1: a byte alone is a token just if it is a letter, a digit, or a sign of one byte.
func TestBytesAlone(t *testing.T) {
	for b := range 256 {
		s := string([]byte{byte(b)})
		switch {
		case s == " " || s == "\n" || s == "#":
			tells(t, s)
		case strings.Contains(letters, s):
			tells(t, s, word(0, s))
		case strings.Contains(digits, s):
			tells(t, s, number(0, b-'0'))
		case slices.Contains(signs(), s):
			tells(t, s, sign(0, s))
		default:
			refuses(t, s, 0, api.ErrText)
			refuses(t, "ab "+s, 3, api.ErrText)
		}
	}
}

// P9.1: MaxText bytes, and one more, whatever they are.
func TestLong(t *testing.T) {
	tells(t, strings.Repeat(" ", api.MaxText))
	tells(t, strings.Repeat("\n", api.MaxText-1)+"b", word(api.MaxText-1, "b"))
	tells(t, "b#"+strings.Repeat("x", api.MaxText-2), word(0, "b"))
	refuses(t, strings.Repeat(" ", api.MaxText-1)+"=", api.MaxText-1, api.ErrText)
	for _, s := range []string{strings.Repeat(" ", api.MaxText+1), "$" + strings.Repeat(" ", api.MaxText), "#" + strings.Repeat("x", api.MaxText), strings.Repeat("+", api.MaxText+1), strings.Repeat("x", 2*api.MaxText), "007" + strings.Repeat("\n", 50*api.MaxText)} {
		refuses(t, s, 0, api.ErrLong)
	}
}

// P9.1: MaxTokens tokens, and what stands behind them.
func TestMany(t *testing.T) {
	s := strings.Repeat("a+", api.MaxTokens/2)
	var want []lex.Token
	for at := 0; at < len(s); at += 2 {
		want = append(want, word(at, "a"), sign(at+1, "+"))
	}
	for _, behind := range []string{"", " ", "\n\n", "#", " # b $ 007\n"} {
		tells(t, s+behind, want...)
	}
	for _, behind := range []string{"b", "1", "+", "$", "=", "007", letters, "\xff", "\t"} {
		refuses(t, s+behind, len(s), api.ErrMany)
		refuses(t, s+" # $\n "+behind, len(s)+6, api.ErrMany)
	}
	// What is wrong ahead of that is told.
	refuses(t, s[:len(s)-1]+"$b", len(s)-1, api.ErrText)
	refuses(t, s[:len(s)-2]+"02 a a", len(s)-2, api.ErrRange)
	refuses(t, s[:len(s)-2]+letters+" a a", len(s)-2, api.ErrName)
	// A text that is too long is told ahead of all.
	refuses(t, strings.Repeat("a ", api.MaxText/2), 2*api.MaxTokens, api.ErrMany)
	refuses(t, strings.Repeat("a ", api.MaxText/2)+"b", 0, api.ErrLong)
}

// P9.1: the first byte that is wrong is told, whatever is wrong there.
func TestFirstWrong(t *testing.T) {
	refuses(t, "a $ 007 "+letters, 2, api.ErrText)
	refuses(t, "a 007 $ "+letters, 2, api.ErrRange)
	refuses(t, "a "+letters+" $ 007", 2, api.ErrName)
}

// P9.2
func TestText(t *testing.T) {
	for _, x := range []struct {
		want string
		l    []lex.Token
	}{
		{"", nil}, {"", []lex.Token{}}, {"", []lex.Token{{}}}, {" ", []lex.Token{{}, {}}}, {"  ", []lex.Token{{}, {}, {}}},
		{"x := y + 12", []lex.Token{word(0, "x"), sign(1, ":="), word(3, "y"), sign(4, "+"), number(5, 12)}},
		{"7", []lex.Token{{Kind: lex.Num, N: 7, At: 99, Text: "8"}}}, {"0", []lex.Token{{Kind: lex.Num}}}, {"-5 9", []lex.Token{{Kind: lex.Num, N: -5}, number(0, 9)}},
		{"-9223372036854775808 9223372036854775807", []lex.Token{{Kind: lex.Num, N: math.MinInt, Text: "a"}, {Kind: lex.Num, N: math.MaxInt, At: -1}}},
		{"a b  c\xff\n", []lex.Token{{Kind: lex.Word, N: 7, Text: "a b"}, {Kind: lex.Sign, N: 8}, {Kind: lex.Word, At: -3, Text: "c\xff\n"}}},
		{"8 x y 9", []lex.Token{{N: 7, Text: "8"}, {Kind: 4, N: 7, Text: "x"}, {Kind: -1, N: 7, Text: "y"}, {Kind: math.MinInt, Text: "9"}}},
	} {
		before := slices.Clone(x.l)
		if got := lex.Text(x.l); got != x.want {
			t.Errorf("Text(%v) = %q, not %q", x.l, got, x.want)
		}
		if !slices.Equal(x.l, before) {
			t.Errorf("Text changes %v", before)
		}
	}
}

// P9.3
func TestName(t *testing.T) {
	for _, s := range []string{"a", "Z", "a_", "a0", "a_0Z", "selfs", "Self", "SELF", "sel", "none_", "nones", "Len", "le", "a1t", "At", "ats", "true", "when", "X", "U", letters[:api.MaxName], "a23456789012345_", "x_______________"} {
		if !lex.Name(s) {
			t.Errorf("Name(%q)", s)
		}
	}
	for _, s := range []string{"", "self", "none", "len", "at", "_", "_a", "0", "0a", "7", "a b", " a", "a ", "a\n", "\na", "a-", "-a", "a.b", "a#", "#a", "+", "é", "aé", "a\x00", "\xff", "a\xff", "aＡ", "٣", "a٣", letters[:api.MaxName+1], letters, letters[:api.MaxName] + " ", letters[:api.MaxName] + "_", strings.Repeat("x", 100000)} {
		if lex.Name(s) {
			t.Errorf("Name(%q) is none", short(s))
		}
	}
	for b := range 256 {
		s := string([]byte{byte(b)})
		if want := strings.Contains(letters, s); lex.Name(s) != want {
			t.Errorf("Name(%q) is not %v", s, want)
		}
		if want := strings.Contains(letters+digits+"_", s); lex.Name("b"+s) != want || lex.Name("b"+s+"b") != want {
			t.Errorf("Name of b and %q is not %v", s, want)
		}
	}
}

// spelled: what the chapter says of a text that is short, by patterns.
type spelled struct {
	gap, word, digits, sign *regexp.Regexp
}

func (p spelled) scan(s string) (l []lex.Token, at int, why api.Errno) {
	for {
		at += len(p.gap.FindString(s[at:]))
		word, digits, sign := p.word.FindString(s[at:]), p.digits.FindString(s[at:]), p.sign.FindString(s[at:])
		switch {
		case at == len(s):
			return l, 0, api.OK
		case word != "":
			l = append(l, lex.Token{Kind: lex.Word, At: at, Text: word})
		case len(digits) > 1 && digits[0] == '0':
			return nil, at, api.ErrRange
		case digits != "":
			n := 0
			for _, r := range digits {
				n = n*10 + int(r-'0')
			}
			l = append(l, lex.Token{Kind: lex.Num, N: n, At: at, Text: digits})
		case sign != "":
			l = append(l, lex.Token{Kind: lex.Sign, At: at, Text: sign})
		default:
			return nil, at, api.ErrText
		}
		at += len(word + digits + sign)
	}
}

// texts: all of up to most of these parts.
func texts(parts []string, most int) []string {
	all, from := []string{""}, 0
	for range most {
		to := len(all)
		for _, s := range all[from:to] {
			for _, part := range parts {
				all = append(all, s+part)
			}
		}
		from = to
	}
	return all
}

// P9.1, P9.4, P9.5: all texts of up to four parts of these.
func TestAllShortTexts(t *testing.T) {
	p := spelled{
		regexp.MustCompile(`^([ \n]|#[^\n]*)*`), regexp.MustCompile(`^[A-Za-z][A-Za-z0-9_]*`), regexp.MustCompile(`^[0-9]+`),
		regexp.MustCompile(`^(:=|==|!=|<=|->|=>|&&|\|\||[][(){};,:.<+*!?@-])`),
	}
	right := 0
	for _, s := range texts([]string{" ", "\n", "#", "a", "Z", "_", "0", "7", "=", "<", ">", ":", "&", "|", "-", "!", "\t", "é", "\xff"}, 4) {
		want, wantAt, wantWhy := p.scan(s)
		got, at, why := lex.Scan(s)
		if !slices.Equal(got, want) || at != wantAt || why != wantWhy {
			t.Fatalf("Scan(%q) = %v, %d, %v, not %v, %d, %v", s, got, at, why, want, wantAt, wantWhy)
		}
		if why == api.OK {
			right++
			inOrder(t, s, got)
			thereAndBack(t, got)
		}
	}
	if right < 1000 {
		t.Error(right)
	}
}

// inOrder: P9.5.
func inOrder(t *testing.T, s string, l []lex.Token) {
	t.Helper()
	end := 0
	for _, x := range l {
		if x.At < end || x.Text == "" || x.At+len(x.Text) > len(s) || s[x.At:x.At+len(x.Text)] != x.Text || !isGap(s[end:x.At]) {
			t.Fatalf("Scan(%q) = %v", s, l)
		}
		if n, is := num.Number(x.Text); is != (x.Kind == lex.Num) || n != x.N {
			t.Fatalf("Scan(%q) = %v", s, l)
		}
		end = x.At + len(x.Text)
	}
	if !isGap(s[end:]) {
		t.Fatalf("Scan(%q) = %v", s, l)
	}
}

// isGap: may s stand between tokens? Each line of it is blanks, up to a remark.
func isGap(s string) bool {
	for line := range strings.SplitSeq(s, "\n") {
		ahead, _, _ := strings.Cut(line, "#")
		if strings.Trim(ahead, " ") != "" {
			return false
		}
	}
	return true
}

// thereAndBack: P9.4.
func thereAndBack(t *testing.T, l []lex.Token) {
	t.Helper()
	text := lex.Text(l)
	back, at, why := lex.Scan(text)
	if at != 0 || why != api.OK || len(back) != len(l) {
		t.Fatalf("Scan(%q) = %v, %d, %v, not %v", text, back, at, why, l)
	}
	end := -1
	for i, x := range back {
		if x.At != end+1 {
			t.Fatalf("Scan(%q) = %v", text, back)
		}
		end = x.At + len(x.Text)
		x.At = l[i].At
		if x != l[i] {
			t.Fatalf("Scan(%q) = %v, not %v", text, back, l)
		}
	}
}

// P9.4, P9.5: a text of many lines.
func TestThereAndBack(t *testing.T) {
	s := strings.Repeat("cmd go fair 0 12 # to 12\nwhen x[self]==1048576 && !(len(c)<=3)\n\n  put x {a->b; c=>d}, -5 || at(p, 1) != none(s)?\n", 100)
	l, at, why := lex.Scan(s)
	if len(l) != 100*(5+17+27) || at != 0 || why != api.OK {
		t.Fatal(len(l), at, why)
	}
	inOrder(t, s, l)
	thereAndBack(t, l)
}

// P9.3: a name is a word that Scan tells, and that is none of expressions.
func TestNamesAreWords(t *testing.T) {
	for _, s := range texts([]string{"s", "e", "l", "f", "n", "o", "a", "t", "_", "0", " "}, 4) {
		l, _, why := lex.Scan(s)
		want := why == api.OK && slices.Equal(l, []lex.Token{word(0, s)}) && !slices.Contains([]string{"self", "none", "len", "at"}, s)
		if got := lex.Name(s); got != want {
			t.Errorf("Name(%q) = %v", s, got)
		}
	}
}

// The rules that hold everywhere: what a call answers is its own.
func TestTokensAreNew(t *testing.T) {
	s := "a 1"
	first, _, _ := lex.Scan(s)
	first[0], first[1] = number(0, 9), number(0, 9)
	tells(t, s, word(0, "a"), number(2, 1))
}
