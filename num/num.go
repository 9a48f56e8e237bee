// Package num reads and writes whole numbers of 64 bits: see its chapter in shared/doc.
package num

import (
	"math"
	"strings"

	"rehearsal/api"
)

// The digits of the greatest base; a lesser one has the first of them.
const signs = "0123456789abcdef"

// A mode has nine bits; a 0 may stand ahead of its three digits.
const (
	mostMode  = 0o777
	modeBytes = 4
)

// Text writes a number with its digits.
func Text(n int) string {
	if n < 0 {
		// Taken off in uint64: there the least number has its opposite, too.
		return "-" + Base(-uint64(n), 10)
	}
	return Base(uint64(n), 10)
}

// Base writes a number in a base from 2 to 16.
func Base(n uint64, base int) string {
	if base < 2 || base > len(signs) {
		return ""
	}
	var digits [64]byte // base 2 needs one for each bit
	at := len(digits) - 1
	for b := uint64(base); n >= b; n /= b {
		digits[at] = signs[n%b]
		at--
	}
	digits[at] = signs[n]
	return string(digits[at:])
}

// Decimal reads a number with a sign, or without, in decimal digits.
func Decimal(s string) (int, api.Errno) {
	if below, ok := strings.CutPrefix(s, "-"); ok {
		n, e := read(below, 10, -math.MinInt64)
		return int(-n), e
	}
	return natural(strings.TrimPrefix(s, "+"), 10)
}

// Constant reads a number as it stands in arithmetic: decimal, octal behind a 0, hexadecimal behind 0x.
func Constant(s string) (int, api.Errno) {
	behind, octal := strings.CutPrefix(s, "0")
	if !octal || behind == "" {
		return natural(s, 10)
	}
	if behind[0] == 'x' || behind[0] == 'X' {
		return natural(behind[1:], 16)
	}
	return natural(behind, 8)
}

// Mode reads a file's mode: up to four octal digits, at most 777.
func Mode(s string) (int, api.Errno) {
	if len(s) > modeBytes {
		return 0, api.ErrNumber
	}
	n, e := read(s, 8, mostMode)
	return int(n), e
}

// natural reads digits of a base as a number that has no sign.
func natural(s string, base uint64) (int, api.Errno) {
	n, e := read(s, base, math.MaxInt64)
	return int(n), e
}

// read reads digits of a base, one at least, as a number up to most, which is no less than a digit.
func read(s string, base, most uint64) (uint64, api.Errno) {
	if s == "" {
		return 0, api.ErrNumber
	}
	n, over := uint64(0), false
	for i := range len(s) {
		d := digit(s[i])
		if d >= base {
			return 0, api.ErrNumber
		}
		// Asked ahead of reckoning, which may wrap round. What is over is read on: a byte that is no digit counts first.
		over = over || n > (most-d)/base
		if !over {
			n = n*base + d
		}
	}
	if over {
		return 0, api.ErrRange
	}
	return n, api.OK
}

// digit tells what a byte stands for as a digit; of one that is none, a number that no base has.
func digit(c byte) uint64 {
	switch {
	case '0' <= c && c <= '9':
		return uint64(c - '0')
	case 'a' <= c && c <= 'f':
		return uint64(c-'a') + 10
	case 'A' <= c && c <= 'F':
		return uint64(c-'A') + 10
	}
	return uint64(len(signs))
}
