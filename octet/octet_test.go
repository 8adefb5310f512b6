package octet_test

import (
	"bytes"
	"math"
	"math/big"
	"slices"
	"testing"

	"lariat/api"
	"lariat/octet"
)

// edges: numbers where a byte more is needed, and the ends of int.
func edges() []int {
	l := []int{0, math.MinInt, math.MaxInt}
	for bit := range 63 {
		n := 1 << bit
		l = append(l, n-1, n, n+1, -n-1, -n, -n+1)
	}
	slices.Sort(l)
	return slices.Compact(l)
}

// byHand: the bytes of a number as the chapter says it, worked out without going round.
func byHand(n int) []byte {
	u := big.NewInt(int64(n))
	u.Mul(u, big.NewInt(2))
	if n < 0 {
		u.Neg(u).Sub(u, big.NewInt(1))
	}
	var out []byte
	for {
		rest, seven := new(big.Int).DivMod(u, big.NewInt(128), new(big.Int))
		if rest.Sign() == 0 {
			return append(out, byte(seven.Int64()))
		}
		out = append(out, byte(seven.Int64())+128)
		u = rest
	}
}

// repeat: count bytes x, and behind them the others.
func repeat(x byte, count int, others ...byte) []byte {
	return append(bytes.Repeat([]byte{x}, count), others...)
}

// P2.1
func TestNumBytes(t *testing.T) {
	for n, want := range map[int][]byte{0: {0}, -1: {1}, 1: {2}, -2: {3}, 63: {126}, -64: {127}, 64: {128, 1}, -65: {129, 1}, 8191: {254, 127}, 8192: {128, 128, 1},
		math.MaxInt: repeat(255, 8, 255, 1), math.MinInt: repeat(255, 9, 1)} {
		if n == math.MaxInt {
			want[0] = 254
		}
		if got := octet.Num(nil, n); !bytes.Equal(got, want) {
			t.Errorf("Num(%d) = %v, not %v", n, got, want)
		}
	}
	for _, n := range edges() {
		if got := octet.Num([]byte{9, 8}, n); !bytes.Equal(got, append([]byte{9, 8}, byHand(n)...)) {
			t.Errorf("Num(%d) = %v", n, got)
		}
	}
}

// P2.1
func TestListAndTextBytes(t *testing.T) {
	long := bytes.Repeat([]byte{'x'}, 70)
	for _, x := range []struct{ got, want []byte }{
		{octet.List(nil, nil), []byte{0}},
		{octet.List(nil, []int{3, -1}), []byte{4, 6, 1}},
		{octet.List([]byte{7}, []int{64}), []byte{7, 2, 128, 1}},
		{octet.List(nil, make([]int, 64)), append([]byte{128, 1}, make([]byte, 64)...)},
		{octet.Text(nil, ""), []byte{0}},
		{octet.Text([]byte{7}, "ab"), []byte{7, 4, 'a', 'b'}},
		{octet.Text(nil, "\xff\x00"), []byte{4, 255, 0}},
		{octet.Text(nil, string(long)), append([]byte{140, 1}, long...)},
	} {
		if !bytes.Equal(x.got, x.want) {
			t.Errorf("%v, not %v", x.got, x.want)
		}
	}
}

// P2.1 and the rules that hold everywhere: what lies behind b's length is not touched, and nothing is shared.
func TestPutIsNewMemory(t *testing.T) {
	for name, put := range map[string]func(b []byte) []byte{
		"Num":  func(b []byte) []byte { return octet.Num(b, 5) },
		"List": func(b []byte) []byte { return octet.List(b, []int{5}) },
		"Text": func(b []byte) []byte { return octet.Text(b, "x") },
	} {
		room := bytes.Repeat([]byte{77}, 32)
		got := put(room[:2])
		again := put(room[:2])
		for i := range got {
			got[i] = 0
		}
		if !bytes.Equal(room, bytes.Repeat([]byte{77}, 32)) {
			t.Error(name, "changes what is handed in:", room)
		}
		if !bytes.HasPrefix(again, []byte{77, 77}) || again[2] == 77 {
			t.Error(name, "shares:", again)
		}
	}
}

// P2.2
func TestReaderGoesOn(t *testing.T) {
	b := octet.Text(octet.List(octet.Num(octet.Text(octet.Num(nil, -300), "one"), 0), []int{1, -1, 1 << 40}), "")
	r := octet.From(append(b, 1, 2, 3))
	if n := r.Num(); n != -300 || r.Left() != len(b)-2+3 {
		t.Error(n, r.Left())
	}
	if s := r.Text(); s != "one" {
		t.Error(s)
	}
	if n := r.Num(); n != 0 {
		t.Error(n)
	}
	if l := r.List(); !slices.Equal(l, []int{1, -1, 1 << 40}) {
		t.Error(l)
	}
	if s := r.Text(); s != "" || r.Left() != 3 || r.Err() != api.OK {
		t.Error(s, r.Left(), r.Err())
	}
}

// P2.2
func TestFromCopies(t *testing.T) {
	b := octet.List(nil, []int{1, 2, 3})
	r := octet.From(b)
	clear(b)
	l := r.List()
	if !slices.Equal(l, []int{1, 2, 3}) {
		t.Error(l)
	}
	b = octet.Num(nil, 4)
	room := append(b, 6)
	r = octet.From(room[:1])
	if r.Left() != 1 || r.Num() != 4 || r.Num() != 0 || r.Err() != api.ErrShort {
		t.Error("reads what lies behind the length")
	}
	b = []byte{4, 2, 4}
	r = octet.From(b)
	r.Num()
	if !bytes.Equal(b, []byte{4, 2, 4}) {
		t.Error("changes what is handed in")
	}
}

// P2.2: the first fault stays, its place stays, and no call behind it reads.
func TestFaultIsKept(t *testing.T) {
	calls := []func(r *octet.Reader) bool{
		func(r *octet.Reader) bool { return r.Num() == 0 },
		func(r *octet.Reader) bool { return len(r.List()) == 0 },
		func(r *octet.Reader) bool { return r.Text() == "" },
	}
	// Behind the first number, 3, each way to read finds a fault: of the number, of the number ahead of others.
	for _, x := range []struct {
		rest []byte
		why  api.Errno
	}{{[]byte{128, 0, 2, 2}, api.ErrForm}, {[]byte{128}, api.ErrShort}, {nil, api.ErrShort}} {
		for i, first := range calls {
			r := octet.From(append([]byte{6}, x.rest...))
			if r.Num() != 3 || r.Err() != api.OK {
				t.Fatal(x.rest)
			}
			for j, call := range append([]func(r *octet.Reader) bool{first}, calls...) {
				if !call(r) || r.Err() != x.why || r.Left() != len(x.rest) {
					t.Error(x.rest, i, j, r.Err(), r.Left())
				}
			}
		}
	}
	// A call of another sort would read well what stands there, were it not for the fault; and would find another fault.
	r := octet.From([]byte{1, 4, 'a', 'b'})
	if len(r.List()) != 0 || r.Err() != api.ErrForm || r.Num() != 0 || r.Left() != 4 {
		t.Error("behind a list", r.Err(), r.Left())
	}
	r = octet.From([]byte{4, 128, 0})
	if len(r.List()) != 0 || r.Err() != api.ErrForm || r.Text() != "" || r.Num() != 0 || r.Left() != 3 {
		t.Error("a text behind a list", r.Err(), r.Left())
	}
	r = octet.From([]byte{40, 1})
	if r.Text() != "" || r.Err() != api.ErrShort || r.Num() != 0 || len(r.List()) != 0 || r.Err() != api.ErrShort || r.Left() != 2 {
		t.Error("behind a text", r.Err(), r.Left())
	}
}

// P2.3
func TestNumFaults(t *testing.T) {
	for _, x := range []struct {
		b    []byte
		why  api.Errno
		want int
		left int
	}{
		{nil, api.ErrShort, 0, 0}, {[]byte{}, api.ErrShort, 0, 0}, {[]byte{128}, api.ErrShort, 0, 1}, {[]byte{255, 255}, api.ErrShort, 0, 2},
		{repeat(128, 9), api.ErrShort, 0, 9}, {repeat(255, 9), api.ErrShort, 0, 9},
		{repeat(128, 10), api.ErrForm, 0, 10}, {repeat(255, 10), api.ErrForm, 0, 10}, {repeat(128, 10, 1), api.ErrForm, 0, 11}, {repeat(128, 9, 129, 0), api.ErrForm, 0, 11},
		{repeat(128, 9, 0), api.ErrForm, 0, 10}, {repeat(128, 9, 2), api.ErrForm, 0, 10}, {repeat(255, 9, 127), api.ErrForm, 0, 10},
		{repeat(128, 9, 1), api.OK, 1 << 62, 0}, {repeat(255, 9, 1), api.OK, math.MinInt, 0}, {repeat(128, 9, 1, 0), api.OK, 1 << 62, 1},
		{repeat(128, 8, 127), api.OK, 127 << 55, 0}, {repeat(128, 8, 0), api.ErrForm, 0, 9},
		{[]byte{128, 0}, api.ErrForm, 0, 2}, {[]byte{129, 0, 7}, api.ErrForm, 0, 3}, {[]byte{128, 128, 0}, api.ErrForm, 0, 3}, {[]byte{128, 1, 0}, api.OK, 64, 1},
		{[]byte{0, 0}, api.OK, 0, 1}, {[]byte{1}, api.OK, -1, 0}, {[]byte{127, 128}, api.OK, -64, 1},
	} {
		r := octet.From(x.b)
		if n := r.Num(); n != x.want || r.Err() != x.why || r.Left() != x.left {
			t.Errorf("%v: %d, %v, %d left", x.b, n, r.Err(), r.Left())
		}
	}
}

// P2.4
func TestListFaults(t *testing.T) {
	for _, x := range []struct {
		b    []byte
		why  api.Errno
		want []int
		left int
	}{
		{[]byte{0, 9}, api.OK, nil, 1}, {[]byte{4, 6, 1}, api.OK, []int{3, -1}, 0}, {[]byte{4, 6, 1, 1}, api.OK, []int{3, -1}, 1},
		{nil, api.ErrShort, nil, 0}, {[]byte{128}, api.ErrShort, nil, 1}, {[]byte{130, 0, 0}, api.ErrForm, nil, 3}, {repeat(255, 10), api.ErrForm, nil, 10},
		{[]byte{1, 0, 0}, api.ErrForm, nil, 3}, {[]byte{1}, api.ErrForm, nil, 1}, {repeat(255, 9, 1), api.ErrForm, nil, 10},
		{[]byte{2}, api.ErrShort, nil, 1}, {[]byte{6, 0, 0}, api.ErrShort, nil, 3}, {append([]byte{254}, repeat(255, 8, 1)...), api.ErrShort, nil, 10}, {[]byte{6, 128, 0}, api.ErrShort, nil, 3},
		{[]byte{4, 0, 128}, api.ErrShort, nil, 3}, {[]byte{4, 128, 0}, api.ErrForm, nil, 3}, {[]byte{4, 128, 1}, api.ErrShort, nil, 3},
		{[]byte{6, 0, 128, 0, 128}, api.ErrForm, nil, 5}, {[]byte{4, 0, 128, 1}, api.OK, []int{0, 64}, 0},
	} {
		r := octet.From(x.b)
		if l := r.List(); !slices.Equal(l, x.want) || r.Err() != x.why || r.Left() != x.left {
			t.Errorf("%v: %v, %v, %d left", x.b, l, r.Err(), r.Left())
		}
	}
}

// P2.4
func TestTextFaults(t *testing.T) {
	for _, x := range []struct {
		b    []byte
		why  api.Errno
		want string
		left int
	}{
		{[]byte{0, 9}, api.OK, "", 1}, {[]byte{4, 'a', 'b'}, api.OK, "ab", 0}, {[]byte{4, 255, 0, 7}, api.OK, "\xff\x00", 1},
		{nil, api.ErrShort, "", 0}, {[]byte{128}, api.ErrShort, "", 1}, {[]byte{130, 0, 0}, api.ErrForm, "", 3}, {repeat(255, 10), api.ErrForm, "", 10},
		{[]byte{1, 'a'}, api.ErrForm, "", 2}, {[]byte{3}, api.ErrForm, "", 1}, {repeat(255, 9, 1), api.ErrForm, "", 10},
		{[]byte{2}, api.ErrShort, "", 1}, {[]byte{6, 'a', 'b'}, api.ErrShort, "", 3}, {append([]byte{254}, repeat(255, 8, 1, 'a')...), api.ErrShort, "", 11},
	} {
		r := octet.From(x.b)
		if s := r.Text(); s != x.want || r.Err() != x.why || r.Left() != x.left {
			t.Errorf("%v: %q, %v, %d left", x.b, s, r.Err(), r.Left())
		}
	}
}

// P2.4 and the rules that hold everywhere: two lists that are read share nothing.
func TestListsAreApart(t *testing.T) {
	b := octet.List(octet.List(nil, []int{1, 2}), []int{3, 4})
	r := octet.From(b)
	first := r.List()
	second := r.List()
	_ = append(first, 9, 9)
	clear(first)
	if !slices.Equal(second, []int{3, 4}) {
		t.Error(second)
	}
}

// P2.5
func TestNoReader(t *testing.T) {
	for _, r := range []*octet.Reader{nil, new(octet.Reader), {}} {
		if r.Err() != api.ErrNil || r.Num() != 0 || len(r.List()) != 0 || r.Text() != "" || r.Left() != 0 || r.Err() != api.ErrNil {
			t.Error(r == nil)
		}
	}
	if r := octet.From(nil); r.Err() != api.OK || r.Left() != 0 {
		t.Error("From(nil) is a reader")
	}
}

// samples: lists of few numbers, among them those at the edges.
func samples() [][]int {
	out := [][]int{nil, {math.MinInt, math.MaxInt}, make([]int, 63), make([]int, 64), make([]int, 65)}
	few := []int{0, -1, 1, 2, 63, 64, -64, -65, 1 << 40}
	for _, a := range few {
		out = append(out, []int{a})
		for _, b := range few {
			out = append(out, []int{a, b})
			for _, c := range few {
				out = append(out, []int{a, b, c})
			}
		}
	}
	return out
}

func texts() []string {
	out := []string{""}
	for from := 0; len(out[from]) < 4; from++ {
		for _, sign := range []string{"\x00", "\x02", "a", "\x80", "\xff"} {
			out = append(out, out[from]+sign)
		}
	}
	return append(out, string(repeat('x', 63)), string(repeat('x', 64)), string(repeat('x', 20000)))
}

// P2.6
func TestThereAndBack(t *testing.T) {
	for _, behind := range [][]byte{nil, {0}, {128}, {255, 255}} {
		for _, n := range edges() {
			r := octet.From(append(octet.Num(nil, n), behind...))
			if got := r.Num(); got != n || r.Err() != api.OK || r.Left() != len(behind) {
				t.Errorf("%d: %d, %v, %d left", n, got, r.Err(), r.Left())
			}
		}
		for _, l := range append(samples(), edges()) {
			r := octet.From(append(octet.List(nil, l), behind...))
			if got := r.List(); !slices.Equal(got, l) || r.Err() != api.OK || r.Left() != len(behind) {
				t.Errorf("%v: %v, %v, %d left", l, got, r.Err(), r.Left())
			}
		}
		for _, s := range texts() {
			r := octet.From(append(octet.Text(nil, s), behind...))
			if got := r.Text(); got != s || r.Err() != api.OK || r.Left() != len(behind) {
				t.Errorf("%q: %q, %v, %d left", s, got, r.Err(), r.Left())
			}
		}
	}
}

// P2.7: of all bytes of two places, and of some of more, and of those around the tenth.
func TestOneWay(t *testing.T) {
	var all [][]byte
	for a := range 256 {
		for b := range 256 {
			all = append(all, []byte{byte(a), byte(b)})
		}
		for _, x := range []byte{128, 255} {
			all = append(all, repeat(x, 8, byte(a)), repeat(x, 9, byte(a)), repeat(x, 8, byte(a), 0), repeat(x, 8, byte(a), 1))
		}
	}
	some := [][]byte{nil}
	for from := 0; len(some[from]) < 5; from++ {
		for _, x := range []byte{0, 1, 2, 4, 127, 128, 129, 130, 255} {
			some = append(some, append(slices.Clone(some[from]), x))
		}
	}
	for _, b := range append(all, some...) {
		oneWay(t, b)
	}
}

func oneWay(t *testing.T, b []byte) {
	t.Helper()
	r := octet.From(b)
	if n := r.Num(); r.Err() == api.OK && !bytes.Equal(octet.Num(nil, n), b[:len(b)-r.Left()]) {
		t.Error("number", b, n)
	}
	r = octet.From(b)
	if l := r.List(); r.Err() == api.OK && !bytes.Equal(octet.List(nil, l), b[:len(b)-r.Left()]) {
		t.Error("list", b, l)
	}
	r = octet.From(b)
	if s := r.Text(); r.Err() == api.OK && !bytes.Equal(octet.Text(nil, s), b[:len(b)-r.Left()]) {
		t.Error("text", b, s)
	}
}

// P2.8
func TestApart(t *testing.T) {
	var ofLists, ofTexts [][]byte
	for _, l := range samples() {
		ofLists = append(ofLists, octet.List(nil, l))
	}
	for _, s := range texts() {
		ofTexts = append(ofTexts, octet.Text(nil, s))
	}
	for _, all := range [][][]byte{ofLists, ofTexts} {
		slices.SortFunc(all, bytes.Compare)
		// In order, what has another one at its beginning stands behind it, and so do all between.
		for i := 1; i < len(all); i++ {
			if bytes.HasPrefix(all[i], all[i-1]) {
				t.Errorf("%v is the beginning of %v", all[i-1], all[i])
			}
		}
	}
}
