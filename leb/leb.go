// Package leb is layer 3: see shared/doc/03-leb.md.
package leb

import (
	"slices"

	"messuage/api"
)

const (
	mostGroups = 10  // of a number
	groupBits  = 7   // of a group
	groupMask  = 127 // a group within its byte
	moreBit    = 128 // of a byte: it isn't the last one
	signBit    = 64  // of the last group
)

// PutU: a number from 0 on, in as few groups as say it, the lowest first, 128 more in each byte but the last.
func PutU(n uint64) []byte {
	var out []byte
	for n > groupMask {
		out = append(out, byte(n)|moreBit)
		n >>= groupBits
	}
	return append(out, byte(n))
}

// PutS: a number with its sign: the highest bit of the last group is the sign's.
func PutS(n int64) []byte {
	var out []byte
	for n < -signBit || n >= signBit {
		out = append(out, byte(n)|moreBit)
		n >>= groupBits
	}
	return append(out, byte(n)&groupMask)
}

// Reader takes up such numbers; behind the first error nothing more.
type Reader struct {
	rest []byte
	fail api.Errno
}

// Read: a reader of these bytes.
func Read(b []byte) *Reader { return &Reader{rest: slices.Clone(b)} }

// number is the groups of one number: their bits, how many they are, and the last one by itself.
type number struct {
	bits uint64
	many int
	last byte
}

// U: the next number from 0 on. ErrLeb, if it has more than ten groups, or is above 2^64 - 1.
func (r *Reader) U() uint64 {
	n, ok := r.take()
	if !ok {
		return 0
	}
	if n.many == mostGroups && n.last > 1 {
		r.stop(api.ErrLeb)
		return 0
	}
	return n.bits
}

// S: the next number with its sign. ErrLeb, if it has more than ten groups, or isn't from -2^63 to 2^63 - 1.
func (r *Reader) S() int64 {
	n, ok := r.take()
	if !ok {
		return 0
	}
	if n.many == mostGroups && n.last != 0 && n.last != groupMask {
		r.stop(api.ErrLeb)
		return 0
	}
	if n.last&signBit != 0 {
		// Of ten groups nothing is left above: the shift is of more bits than there are, and lays down none.
		n.bits |= ^uint64(0) << (groupBits * n.many)
	}
	return int64(n.bits)
}

// take: the groups of the next number, which are left no more; false: there is an error, now or since before.
func (r *Reader) take() (number, bool) {
	n := number{}
	for _, b := range r.rest[:min(len(r.rest), mostGroups)] {
		n.last = b & groupMask
		n.bits |= uint64(n.last) << (groupBits * n.many)
		n.many++
		if b&moreBit == 0 {
			r.rest = r.rest[n.many:]
			return n, true
		}
	}
	if n.many == mostGroups {
		r.stop(api.ErrLeb)
	} else {
		r.stop(api.ErrShort)
	}
	return number{}, false
}

// stop: an error, the first one of which stays; nothing is left behind it.
func (r *Reader) stop(e api.Errno) {
	if r.fail == api.OK {
		r.fail = e
	}
	r.rest = nil
}

// Fail: the first error so far.
func (r *Reader) Fail() api.Errno { return r.fail }

// Left: how many bytes are left; none behind an error.
func (r *Reader) Left() int { return len(r.rest) }
