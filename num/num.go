// Package num is layer 1: see shared/doc/01-num.md.
package num

import (
	"math"
	"math/bits"
	"strings"

	"messuage/api"
)

// Add: the sum, and true; 0 and false, if it is above 2^64 - 1.
func Add(a, b uint64) (uint64, bool) {
	if a > math.MaxUint64-b {
		return 0, false
	}
	return a + b, true
}

// Sub: the difference, and true; 0 and false, if it is below 0.
func Sub(a, b uint64) (uint64, bool) {
	if a < b {
		return 0, false
	}
	return a - b, true
}

// Mul: the product, and true; 0 and false, if it is above 2^64 - 1.
func Mul(a, b uint64) (uint64, bool) {
	high, low := bits.Mul64(a, b)
	if high != 0 {
		return 0, false
	}
	return low, true
}

// Power: is a number a power of 2?
func Power(n uint64) bool { return n != 0 && n&(n-1) == 0 }

// Down: the greatest multiple of a power of 2 that isn't above a number.
func Down(n, unit uint64) (uint64, api.Errno) {
	if !Power(unit) {
		return 0, api.ErrAlign
	}
	return n &^ (unit - 1), api.OK
}

// Up: the least multiple of a power of 2 that isn't below a number.
func Up(n, unit uint64) (uint64, api.Errno) {
	if !Power(unit) {
		return 0, api.ErrAlign
	}
	last, ok := Add(n, unit-1)
	if !ok {
		return 0, api.ErrOver
	}
	return Down(last, unit)
}

// Pages: how many pages so many bytes touch, from a page's beginning on.
func Pages(n uint64) uint64 {
	whole := n / api.PageSize
	if n%api.PageSize != 0 {
		return whole + 1
	}
	return whole
}

// Inside: do so many bytes from a place on lie within those of another place and size?
func Inside(at, size, from, room uint64) bool {
	ahead, ok := Sub(at, from)
	if !ok {
		return false
	}
	// What is left of the room is asked, not where the rows end: an end may lie beyond 2^64.
	left, ok := Sub(room, ahead)
	return ok && size <= left
}

// Apart: have two rows of bytes no byte together? (An empty one has none with any.)
func Apart(at, size, from, room uint64) bool {
	if size == 0 || room == 0 {
		return true
	}
	// Likewise: how far the later row begins behind the other, not where that one ends.
	if at <= from {
		return size <= from-at
	}
	return room <= at-from
}

const hexAhead = "0x"

// Hex: 0x and the number in the base 16, without noughts ahead.
func Hex(n uint64) string { return hexAhead + write(n, 16) }

// ParseHex: the number that Hex writes so.
func ParseHex(s string) (uint64, api.Errno) {
	rest, ok := strings.CutPrefix(s, hexAhead)
	if !ok {
		return 0, api.ErrDigits
	}
	n, ok := read(rest, 16, math.MaxUint64)
	if !ok {
		return 0, api.ErrDigits
	}
	return n, api.OK
}

// Text: a number from 0 on in decimal digits, without noughts ahead; of one below 0 the text of 0.
func Text(n int) string { return write(uint64(max(n, 0)), 10) }

// Parse: the number that Text writes so, if it is below 2^31.
func Parse(s string) (int, api.Errno) {
	n, ok := read(s, 10, math.MaxInt32)
	if !ok {
		return 0, api.ErrDigits
	}
	return int(n), api.OK
}

const digits = "0123456789abcdef"

// write: the digits of a number in the base 10 or 16, without noughts ahead.
func write(n, base uint64) string {
	var room [20]byte // 2^64 - 1 has 20 digits in the base 10, and fewer in the base 16
	first := len(room)
	for more := true; more; more = n != 0 {
		first--
		room[first] = digits[n%base]
		n /= base
	}
	return string(room[first:])
}

// read: the number that write writes so, and true, if it isn't above most; 0 and false of all other texts.
func read(s string, base, most uint64) (uint64, bool) {
	if s == "" || s[0] == '0' && s != "0" {
		return 0, false
	}
	n := uint64(0)
	for i := range len(s) {
		digit := strings.IndexByte(digits[:base], s[i])
		if digit < 0 {
			return 0, false
		}
		one := uint64(digit)
		// Asked ahead of the step, as the step itself could go round.
		if n > (most-one)/base {
			return 0, false
		}
		n = n*base + one
	}
	return n, true
}
