// Package num is layer 1: numbers within bounds, mixed bases, decimals. See shared/doc/01-num.md.
package num

import (
	"strconv"

	"lariat/api"
)

// longest is how many bytes the Decimal of a number within bounds has at most: seven digits and a minus.
const longest = 8

// operation makes one number of two. Its numbers are within bounds, so that of does not go round.
type operation struct {
	of func(a, b int) int
}

func (o operation) told(a, b int) (int, bool) {
	if !within(a, b) {
		return 0, false
	}
	n := o.of(a, b)
	if !within(n) {
		return 0, false
	}
	return n, true
}

func within(numbers ...int) bool {
	for _, n := range numbers {
		if !Fits(n, -api.MaxNum, api.MaxNum) {
			return false
		}
	}
	return true
}

// Fits tells whether n is from lo to hi.
func Fits(n, lo, hi int) bool {
	return lo <= n && n <= hi
}

// Clamp is the number from lo to hi that is next to n; lo, if hi is below it.
func Clamp(n, lo, hi int) int {
	if hi < lo || n < lo {
		return lo
	}
	if n > hi {
		return hi
	}
	return n
}

// Add is a + b, if all three are within bounds.
func Add(a, b int) (int, bool) {
	return operation{func(a, b int) int { return a + b }}.told(a, b)
}

// Sub is a - b, if all three are within bounds.
func Sub(a, b int) (int, bool) {
	return operation{func(a, b int) int { return a - b }}.told(a, b)
}

// Mul is a times b, if all three are within bounds.
func Mul(a, b int) (int, bool) {
	return operation{func(a, b int) int { return a * b }}.told(a, b)
}

// Mod is what is left of n by a division that goes down, never below 0; 0, if by is 0.
func Mod(n, by int) int {
	if by == 0 {
		return 0
	}
	left := n % by
	if left >= 0 {
		return left
	}
	// The lowest int has no counterpart above 0: a by below 0 is taken off, not turned about.
	if by < 0 {
		return left - by
	}
	return left + by
}

// Rank is the number that the digits make, the first one the highest.
func Rank(digits, bases []int) (int, bool) {
	if len(digits) != len(bases) {
		return 0, false
	}
	n := 0
	for i, digit := range digits {
		more, fits := further(n, digit, bases[i])
		if !fits {
			return 0, false
		}
		n = more
	}
	return n, true
}

// further is n with one digit more. A base may be any int: it is held against what is left by a division, as the product might go round.
func further(n, digit, base int) (int, bool) {
	if base < 1 || !Fits(digit, 0, base-1) {
		return 0, false
	}
	if n > 0 && base > api.MaxNum/n {
		return 0, false
	}
	ahead := n * base
	if digit > api.MaxNum-ahead {
		return 0, false
	}
	return ahead + digit, true
}

// Unrank is the digits whose Rank is n.
func Unrank(n int, bases []int) ([]int, bool) {
	if !Fits(n, 0, api.MaxNum) {
		return nil, false
	}
	digits := make([]int, len(bases))
	for i := len(bases) - 1; i >= 0; i-- {
		if bases[i] < 1 {
			return nil, false
		}
		digits[i] = n % bases[i]
		n /= bases[i]
	}
	if n != 0 {
		return nil, false
	}
	return digits, true
}

// Decimal is n's decimal digits, a minus ahead of them, if n is below 0.
func Decimal(n int) string {
	return strconv.Itoa(n)
}

// Number is the number within bounds whose Decimal s is.
func Number(s string) (int, bool) {
	if len(s) > longest {
		return 0, false
	}
	n, err := strconv.Atoi(s)
	if err != nil || !within(n) {
		return 0, false
	}
	// Atoi takes a plus and noughts ahead, which no Decimal has.
	if Decimal(n) != s {
		return 0, false
	}
	return n, true
}
