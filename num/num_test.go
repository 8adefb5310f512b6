package num_test

import (
	"fmt"
	"math"
	"math/big"
	"slices"
	"testing"

	"lariat/api"
	"lariat/num"
)

// edges: numbers at and around the bounds, where products go round, and at the ends of int.
func edges() []int {
	l := []int{0, math.MaxInt, math.MinInt, math.MaxInt - 1, math.MinInt + 1}
	for _, n := range []int{1, 2, 3, 7, 1023, 1024, 1025, 1 << 19, api.MaxNum, 1 << 31, 1 << 32, 1 << 40, 1 << 62} {
		l = append(l, n-1, n, n+1, -n-1, -n, -n+1)
	}
	slices.Sort(l)
	return slices.Compact(l)
}

// P1.1
func TestFits(t *testing.T) {
	for _, x := range []struct {
		n, lo, hi int
		want      bool
	}{
		{3, 3, 3, true}, {2, 3, 3, false}, {4, 3, 3, false}, {3, 1, 5, true}, {1, 1, 5, true}, {5, 1, 5, true},
		{0, 1, 5, false}, {6, 1, 5, false}, {3, 5, 1, false}, {5, 5, 1, false}, {1, 5, 1, false}, {-3, -5, -1, true},
		{math.MinInt, math.MinInt, math.MaxInt, true}, {math.MaxInt, math.MinInt, math.MaxInt, true},
		{math.MinInt, 0, math.MaxInt, false}, {math.MaxInt, math.MinInt, 0, false},
	} {
		if got := num.Fits(x.n, x.lo, x.hi); got != x.want {
			t.Errorf("Fits(%d, %d, %d) = %v", x.n, x.lo, x.hi, got)
		}
	}
}

// P1.1
func TestClamp(t *testing.T) {
	for _, x := range [][4]int{
		{3, 1, 5, 3}, {1, 1, 5, 1}, {5, 1, 5, 5}, {0, 1, 5, 1}, {6, 1, 5, 5}, {7, 4, 4, 4}, {1, 4, 4, 4}, {4, 4, 4, 4},
		{3, 5, 1, 5}, {9, 5, 1, 5}, {0, 5, 1, 5}, {5, 5, 1, 5}, {1, 5, 1, 5}, {-3, -5, -1, -3},
		{math.MinInt, -1, 1, -1}, {math.MaxInt, -1, 1, 1}, {0, math.MaxInt, math.MinInt, math.MaxInt},
	} {
		if got := num.Clamp(x[0], x[1], x[2]); got != x[3] {
			t.Errorf("Clamp(%d, %d, %d) = %d, not %d", x[0], x[1], x[2], got, x[3])
		}
	}
}

// exact: what the chapter says of a, b and what is made of them, worked out without bounds.
func exact(a, b int, of func(z, x, y *big.Int) *big.Int) (int, bool) {
	n := of(new(big.Int), big.NewInt(int64(a)), big.NewInt(int64(b)))
	for _, x := range []*big.Int{big.NewInt(int64(a)), big.NewInt(int64(b)), n} {
		if x.CmpAbs(big.NewInt(api.MaxNum)) > 0 {
			return 0, false
		}
	}
	return int(n.Int64()), true
}

// P1.2
func TestSumsDifferencesProducts(t *testing.T) {
	for _, x := range []struct {
		name string
		call func(a, b int) (int, bool)
		of   func(z, x, y *big.Int) *big.Int
	}{{"Add", num.Add, (*big.Int).Add}, {"Sub", num.Sub, (*big.Int).Sub}, {"Mul", num.Mul, (*big.Int).Mul}} {
		for _, a := range edges() {
			for _, b := range edges() {
				want, wantIs := exact(a, b, x.of)
				if got, is := x.call(a, b); got != want || is != wantIs {
					t.Errorf("%s(%d, %d) = %d, %v, not %d, %v", x.name, a, b, got, is, want, wantIs)
				}
			}
		}
	}
}

// P1.2: the bounds themselves, and a part out of bounds with a sum that is within.
func TestBounds(t *testing.T) {
	const most = api.MaxNum
	for _, x := range []struct {
		call func(a, b int) (int, bool)
		a, b int
		want int
		is   bool
	}{
		{num.Add, most, 0, most, true}, {num.Add, most, 1, 0, false}, {num.Add, most + 1, -1, 0, false}, {num.Add, -1, most + 1, 0, false},
		{num.Sub, -most, 0, -most, true}, {num.Sub, -most, 1, 0, false}, {num.Sub, most + 1, 1, 0, false}, {num.Sub, 1, most + 1, 0, false},
		{num.Mul, 1024, 1024, most, true}, {num.Mul, 1024, 1025, 0, false}, {num.Mul, most + 1, 0, 0, false}, {num.Mul, 0, -most - 1, 0, false}, {num.Mul, -1, most, -most, true},
	} {
		if got, is := x.call(x.a, x.b); got != x.want || is != x.is {
			t.Errorf("of %d, %d: %d, %v, not %d, %v", x.a, x.b, got, is, x.want, x.is)
		}
	}
}

// P1.2: big's Mod is the one of Euclid, too.
func TestMod(t *testing.T) {
	for _, n := range edges() {
		for _, by := range edges() {
			want := 0
			if by != 0 {
				want = int(new(big.Int).Mod(big.NewInt(int64(n)), big.NewInt(int64(by))).Int64())
			}
			if got := num.Mod(n, by); got != want {
				t.Errorf("Mod(%d, %d) = %d, not %d", n, by, got, want)
			}
		}
	}
	for _, x := range [][3]int{{-7, 3, 2}, {-7, -3, 2}, {7, -3, 1}, {6, 3, 0}, {-6, 3, 0}, {-6, -3, 0}, {9, 0, 0}, {math.MinInt, -1, 0}, {-1, math.MinInt, math.MaxInt}, {math.MinInt, math.MinInt, 0}} {
		if got := num.Mod(x[0], x[1]); got != x[2] {
			t.Errorf("Mod(%d, %d) = %d, not %d", x[0], x[1], got, x[2])
		}
	}
}

// P1.3
func TestRank(t *testing.T) {
	const most = api.MaxNum
	for _, x := range []struct {
		digits, bases []int
		want          int
		is            bool
	}{
		{nil, nil, 0, true}, {[]int{}, nil, 0, true},
		{[]int{1, 2}, []int{3, 4}, 6, true}, {[]int{0, 0, 0}, []int{1, 1, 1}, 0, true}, {[]int{2, 3}, []int{3, 4}, 11, true},
		{[]int{1}, nil, 0, false}, {nil, []int{1}, 0, false}, {[]int{0, 0}, []int{1}, 0, false}, {[]int{0}, []int{1, 1}, 0, false},
		{[]int{0}, []int{0}, 0, false}, {[]int{0}, []int{-1}, 0, false}, {[]int{0}, []int{math.MinInt}, 0, false}, {[]int{-1}, []int{math.MinInt}, 0, false},
		{[]int{0, 0}, []int{2, 0}, 0, false}, {[]int{1, 0}, []int{2, -5}, 0, false},
		{[]int{3}, []int{3}, 0, false}, {[]int{-1}, []int{3}, 0, false}, {[]int{1, 4}, []int{3, 4}, 0, false}, {[]int{1, -1}, []int{3, 4}, 0, false},
		{[]int{most}, []int{most + 1}, most, true}, {[]int{most + 1}, []int{most + 2}, 0, false},
		{[]int{1024, 0}, []int{1025, 1024}, most, true}, {[]int{1024, 1}, []int{1025, 1024}, 0, false},
		{[]int{1, most - 7}, []int{2, 7}, 0, false}, {[]int{1, 6}, []int{2, most - 6}, most, true}, {[]int{1, 7}, []int{2, most - 6}, 0, false},
		{[]int{0, 5}, []int{math.MaxInt, 6}, 5, true}, {[]int{0, 5}, []int{6, math.MaxInt}, 5, true}, {[]int{0, math.MaxInt - 1}, []int{6, math.MaxInt}, 0, false},
		{[]int{4, 0}, []int{5, 1 << 62}, 0, false}, {[]int{8, 3}, []int{9, 1 << 61}, 0, false}, {[]int{1, 0}, []int{2, math.MaxInt}, 0, false},
		{[]int{most, 0, 0}, []int{most + 1, 2, 2}, 0, false},
	} {
		if got, is := num.Rank(x.digits, x.bases); got != x.want || is != x.is {
			t.Errorf("Rank(%v, %v) = %d, %v, not %d, %v", x.digits, x.bases, got, is, x.want, x.is)
		}
	}
}

// P1.3
func TestUnrank(t *testing.T) {
	const most = api.MaxNum
	for _, x := range []struct {
		n     int
		bases []int
		want  []int
		is    bool
	}{
		{0, nil, nil, true}, {1, nil, nil, false}, {6, []int{3, 4}, []int{1, 2}, true}, {11, []int{3, 4}, []int{2, 3}, true}, {12, []int{3, 4}, nil, false},
		{0, []int{1, 1}, []int{0, 0}, true}, {1, []int{1, 1}, nil, false}, {-1, []int{3, 4}, nil, false}, {math.MinInt, []int{3, 4}, nil, false},
		{0, []int{0}, nil, false}, {0, []int{-3}, nil, false}, {0, []int{0, 5}, nil, false}, {0, []int{5, 0}, nil, false}, {7, []int{math.MinInt, 9}, nil, false},
		{most, []int{most + 1}, []int{most}, true}, {most + 1, []int{most + 2}, nil, false}, {most, []int{most}, nil, false},
		{most, []int{1025, 1024}, []int{1024, 0}, true}, {5, []int{math.MaxInt, math.MaxInt}, []int{0, 5}, true}, {math.MaxInt, []int{math.MaxInt, math.MaxInt}, nil, false},
	} {
		got, is := num.Unrank(x.n, x.bases)
		if !slices.Equal(got, x.want) || is != x.is {
			t.Errorf("Unrank(%d, %v) = %v, %v, not %v, %v", x.n, x.bases, got, is, x.want, x.is)
		}
	}
}

// The rules that hold everywhere: nothing handed in is changed, and nothing is shared.
func TestRankUnrankLeaveArguments(t *testing.T) {
	digits, bases := []int{1, 2}, []int{3, 4}
	num.Rank(digits, bases)
	got, _ := num.Unrank(6, bases)
	got[0], got[1] = 9, 9
	if !slices.Equal(digits, []int{1, 2}) || !slices.Equal(bases, []int{3, 4}) {
		t.Error(digits, bases)
	}
	if again, _ := num.Unrank(6, bases); !slices.Equal(again, []int{1, 2}) {
		t.Error(again)
	}
}

// P1.4
func TestDecimal(t *testing.T) {
	for n, want := range map[int]string{0: "0", 7: "7", -7: "-7", 10: "10", 100: "100", -100: "-100", api.MaxNum: "1048576", -api.MaxNum: "-1048576", math.MaxInt: "9223372036854775807", math.MinInt: "-9223372036854775808"} {
		if got := num.Decimal(n); got != want {
			t.Errorf("Decimal(%d) = %q", n, got)
		}
	}
	for _, n := range edges() {
		if got := num.Decimal(n); got != fmt.Sprintf("%d", n) {
			t.Errorf("Decimal(%d) = %q", n, got)
		}
	}
}

// P1.4
func TestNumber(t *testing.T) {
	for s, want := range map[string]int{"0": 0, "1": 1, "-1": -1, "10": 10, "999999": 999999, "1000000": 1000000, "1048576": 1048576, "-1048576": -1048576} {
		if got, is := num.Number(s); got != want || !is {
			t.Errorf("Number(%q) = %d, %v", s, got, is)
		}
	}
	for _, s := range []string{"", "-", "+", "--1", "-0", "00", "007", "-07", "+7", " 7", "7 ", "7\n", "1_0", "0x1", "1e3", "1.0", "7a", "a7", "٣", "7\x00", "\xff", "1048577", "-1048577", "2000000", "9999999", "10000000", "00000001", "9223372036854775807", "-9223372036854775808", "18446744073709551617", "99999999999999999999999999"} {
		if got, is := num.Number(s); got != 0 || is {
			t.Errorf("Number(%q) = %d, %v", s, got, is)
		}
	}
}

// P1.4, P1.5: a text is a Number just if it is a Decimal; all texts of up to four signs of these.
func TestNumberOfDecimalsAlone(t *testing.T) {
	texts := []string{""}
	for from := 0; len(texts[from]) < 4; from++ {
		for _, sign := range "-+ 0179" {
			texts = append(texts, texts[from]+string(sign))
		}
	}
	decimals := map[string]int{}
	for n := -999; n <= 9999; n++ {
		decimals[fmt.Sprint(n)] = n
	}
	for _, s := range texts {
		want, wantIs := decimals[s]
		if got, is := num.Number(s); got != want || is != wantIs {
			t.Errorf("Number(%q) = %d, %v", s, got, is)
		}
	}
}

// P1.5
func TestThereAndBackDecimal(t *testing.T) {
	for n := -api.MaxNum; n <= api.MaxNum; n++ {
		s := num.Decimal(n)
		if got, is := num.Number(s); got != n || !is {
			t.Fatalf("Number(%q) = %d, %v", s, got, is)
		}
	}
}

// lists: all digits to the bases, in the order of the first place where they differ.
func lists(bases []int) [][]int {
	out := [][]int{nil}
	for _, base := range bases {
		var longer [][]int
		for _, l := range out {
			for digit := range base {
				longer = append(longer, append(slices.Clone(l), digit))
			}
		}
		out = longer
	}
	return out
}

// P1.5, P1.6
func TestThereAndBackAndOrder(t *testing.T) {
	for _, bases := range [][]int{nil, {1}, {5}, {1, 1, 1}, {3, 4}, {4, 3}, {2, 1, 3}, {1, 5, 2, 3}, {2, 2, 2, 2, 2, 2}, {7, 11, 13}} {
		all := lists(bases)
		before := -1
		for i, digits := range all {
			n, is := num.Rank(digits, bases)
			if !is || n != i || n <= before {
				t.Errorf("Rank(%v, %v) = %d, %v, behind %d", digits, bases, n, is, before)
			}
			before = n
			if back, is := num.Unrank(n, bases); !is || !slices.Equal(back, digits) {
				t.Errorf("Unrank(%d, %v) = %v, %v, not %v", n, bases, back, is, digits)
			}
		}
		if back, is := num.Unrank(len(all), bases); is || len(back) != 0 {
			t.Errorf("Unrank(%d, %v) = %v, %v", len(all), bases, back, is)
		}
	}
}

// P1.5: from the number to the digits and back, up to the bound.
func TestThereAndBackFromNumbers(t *testing.T) {
	for _, bases := range [][]int{{math.MaxInt}, {2, 1 << 20}, {1025, 1024}, {1 << 40, 3, 5}, {3, math.MaxInt}} {
		for n := 0; n <= api.MaxNum; n += 997 {
			for _, n := range []int{n, api.MaxNum - n} {
				digits, is := num.Unrank(n, bases)
				if back, isBack := num.Rank(digits, bases); !is || !isBack || back != n {
					t.Fatalf("%d to %v: %v, %v, back %d, %v", n, bases, digits, is, back, isBack)
				}
			}
		}
	}
}
