// Package wide is layer 1: unsigned integers of 128 bits, which serve as
// counters that never overflow in practice.
package wide

import (
	"math"
	"math/bits"

	"haymow/api"
)

// longest is how many decimal digits the greatest number has.
const longest = 39

// Of returns the number n.
func Of(n uint64) api.Wide { return api.Wide{Lo: n} }

// Most returns the greatest number, 2^128 - 1.
func Most() api.Wide { return api.Wide{Hi: math.MaxUint64, Lo: math.MaxUint64} }

// Cmp returns -1, 0 or 1 if a is less than, equal to, or greater than b.
func Cmp(a, b api.Wide) int {
	if a == b {
		return 0
	}
	if Less(a, b) {
		return -1
	}
	return 1
}

// Less reports whether a is less than b.
func Less(a, b api.Wide) bool {
	if a.Hi != b.Hi {
		return a.Hi < b.Hi
	}
	return a.Lo < b.Lo
}

// Add returns the sum and true, or Most and false if the sum exceeds Most.
func Add(a, b api.Wide) (api.Wide, bool) {
	lo, carry := bits.Add64(a.Lo, b.Lo, 0)
	hi, carry := bits.Add64(a.Hi, b.Hi, carry)
	if carry != 0 {
		return Most(), false
	}
	return api.Wide{Hi: hi, Lo: lo}, true
}

// Sub returns the difference and true, or 0 and false if a is less than b.
func Sub(a, b api.Wide) (api.Wide, bool) {
	lo, borrow := bits.Sub64(a.Lo, b.Lo, 0)
	hi, borrow := bits.Sub64(a.Hi, b.Hi, borrow)
	if borrow != 0 {
		return api.Wide{}, false
	}
	return api.Wide{Hi: hi, Lo: lo}, true
}

// Mul returns the product and true, or Most and false if it exceeds Most.
func Mul(a api.Wide, n uint64) (api.Wide, bool) {
	up, lo := bits.Mul64(a.Lo, n)
	over, hi := bits.Mul64(a.Hi, n)
	hi, carry := bits.Add64(hi, up, 0)
	if over != 0 || carry != 0 {
		return Most(), false
	}
	return api.Wide{Hi: hi, Lo: lo}, true
}

// Div returns the quotient and the remainder, or ErrArg if n is 0.
func Div(a api.Wide, n uint64) (api.Wide, uint64, api.Errno) {
	if n == 0 {
		return api.Wide{}, 0, api.ErrArg
	}
	// The upper half is divided first so that what is left of it is below n:
	// bits.Div64 panics on a quotient of more than 64 bits.
	hi, left := a.Hi/n, a.Hi%n
	lo, left := bits.Div64(left, a.Lo, n)
	return api.Wide{Hi: hi, Lo: lo}, left, api.OK
}

// Sum returns the sum of all numbers of a list.
func Sum(list ...uint64) api.Wide {
	var sum api.Wide
	for _, n := range list {
		// Always true: an overflow would take a list of over 2^64 numbers.
		sum, _ = Add(sum, Of(n))
	}
	return sum
}

// Text returns the decimal representation without leading zeros.
func Text(a api.Wide) string {
	var digits [longest]byte
	at := longest
	// At least one round, so that 0 has a digit too.
	for {
		rest, digit, _ := Div(a, 10)
		at--
		digits[at] = '0' + byte(digit)
		if rest == (api.Wide{}) {
			return string(digits[at:])
		}
		a = rest
	}
}

// Parse returns the number whose Text is s; ErrForm if s is the decimal
// representation of no number at all, ErrRange if that number exceeds Most.
func Parse(s string) (api.Wide, api.Errno) {
	// The form of the whole text comes first: a digit too many must not hide
	// a byte behind it that is no digit.
	if !decimal(s) {
		return api.Wide{}, api.ErrForm
	}
	var a api.Wide
	for i := range len(s) {
		tens, fits := Mul(a, 10)
		sum, ok := Add(tens, Of(uint64(s[i]-'0')))
		if !fits || !ok {
			return api.Wide{}, api.ErrRange
		}
		a = sum
	}
	return a, api.OK
}

// decimal reports whether s consists of digits, at least one, and begins with
// a zero only if it is nothing else.
func decimal(s string) bool {
	if s == "" || s[0] == '0' && s != "0" {
		return false
	}
	for i := range len(s) {
		if s[i] < '0' || s[i] > '9' {
			return false
		}
	}
	return true
}
