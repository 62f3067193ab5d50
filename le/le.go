// Package le is layer 2: see shared/doc/02-le.md.
package le

import (
	"bytes"
	"slices"

	"messuage/api"
	"messuage/num"
)

// U16: a number of two bytes.
func U16(b []byte, at uint64) (uint16, api.Errno) {
	n, e := number(b, at, 2)
	return uint16(n), e
}

// U32: a number of four bytes.
func U32(b []byte, at uint64) (uint32, api.Errno) {
	n, e := number(b, at, 4)
	return uint32(n), e
}

// U64: a number of eight bytes.
func U64(b []byte, at uint64) (uint64, api.Errno) { return number(b, at, 8) }

// Part: so many bytes from a place on, in new memory.
func Part(b []byte, at, size uint64) ([]byte, api.Errno) {
	if !has(b, at, size) {
		return nil, api.ErrShort
	}
	return slices.Clone(b[at : at+size]), api.OK
}

// has: are so many bytes from a place on all there?
func has(b []byte, at, size uint64) bool {
	return num.Inside(at, size, 0, uint64(len(b)))
}

// number: the number of so many bytes, eight at most, from a place on.
func number(b []byte, at, size uint64) (uint64, api.Errno) {
	if !has(b, at, size) {
		return 0, api.ErrShort
	}
	n := uint64(0)
	for i := range size {
		n |= uint64(b[at+i]) << (8 * i)
	}
	return n, api.OK
}

const (
	firstPlain = 33
	lastPlain  = 126
)

// Plain: has a text just bytes from 33 to 126, and is it no longer than a name may be?
func Plain(s string) bool {
	if len(s) > api.MaxName {
		return false
	}
	// A byte above 127 is never a character by itself: what it is part of, or stands for, is above 126, too.
	for _, c := range s {
		if c < firstPlain || c > lastPlain {
			return false
		}
	}
	return true
}

// Text: the text that stands at a place, up to a byte 0.
func Text(b []byte, at uint64) (string, api.Errno) {
	if at >= uint64(len(b)) {
		return "", api.ErrShort
	}
	rest := b[at:]
	size := bytes.IndexByte(rest, 0)
	if size < 0 {
		return "", api.ErrShort
	}
	s := string(rest[:size])
	if !Plain(s) {
		return "", api.ErrText
	}
	return s, api.OK
}

// Buf is bytes that are laid down one behind the other.
type Buf struct {
	laid []byte
}

// New: nothing laid down.
func New() *Buf { return &Buf{} }

// Put16: a number of two bytes.
func (f *Buf) Put16(n uint16) { f.put(uint64(n), 2) }

// Put32: a number of four bytes.
func (f *Buf) Put32(n uint32) { f.put(uint64(n), 4) }

// Put64: a number of eight bytes.
func (f *Buf) Put64(n uint64) { f.put(n, 8) }

// put: the lowest bytes of a number, so many.
func (f *Buf) put(n uint64, size int) {
	for range size {
		f.laid = append(f.laid, byte(n))
		n >>= 8
	}
}

// Raw: bytes as they are.
func (f *Buf) Raw(b []byte) { f.laid = append(f.laid, b...) }

// Zeros: so many bytes 0 (none, if it is below 0; at most MaxFile at one time).
func (f *Buf) Zeros(many int) {
	f.laid = append(f.laid, make([]byte, min(max(many, 0), api.MaxFile))...)
}

// To: bytes 0, till the length is a multiple of a power of 2 (nothing, if it is none, or above MaxFile).
func (f *Buf) To(unit int) {
	if unit < 1 || unit > api.MaxFile {
		return
	}
	end, e := num.Up(uint64(len(f.laid)), uint64(unit))
	if e != api.OK {
		return
	}
	f.Zeros(int(end) - len(f.laid))
}

// Set64: the eight bytes at a place that is laid down already; false: they aren't.
func (f *Buf) Set64(at int, n uint64) bool {
	if at < 0 || !has(f.laid, uint64(at), 8) {
		return false
	}
	for i := range 8 {
		f.laid[at+i] = byte(n >> (8 * i))
	}
	return true
}

// Len: how many bytes are laid down.
func (f *Buf) Len() int { return len(f.laid) }

// Bytes: all of them, in new memory.
func (f *Buf) Bytes() []byte { return slices.Clone(f.laid) }
