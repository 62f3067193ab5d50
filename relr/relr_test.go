package relr_test

import (
	"bytes"
	"encoding/binary"
	"math"
	"slices"
	"testing"

	"messuage/api"
	"messuage/relr"
)

const (
	most = 512            // words, and places
	huge = math.MaxUint64 // 2^64 - 1
	full = math.MaxUint64 // a row of bits that tells all of its 63 places
	none = 1              // a row of bits that tells none

	// The greatest words that are even, and behind which it counts from a place: 2^64 - 2 in the end.
	lastEven   = huge - 9
	lastForRow = huge - 513
)

// words: the bytes of words.
func words(l ...uint64) []byte {
	var b []byte
	for _, n := range l {
		b = binary.LittleEndian.AppendUint64(b, n)
	}
	return b
}

// steps: so many places from one on, so far apart.
func steps(from uint64, many int, step uint64) []uint64 {
	var l []uint64
	for i := range uint64(many) {
		l = append(l, from+i*step)
	}
	return l
}

// row: a row of bits that tells the places of these numbers, from 1 to 63.
func row(numbers ...int) uint64 {
	n := uint64(1)
	for _, i := range numbers {
		n |= 1 << i
	}
	return n
}

// checkPlaces: these words tell these places.
func checkPlaces(t *testing.T, l []uint64, want ...uint64) {
	t.Helper()
	if got, e := relr.Decode(words(l...)); e != api.OK || !slices.Equal(got, want) {
		t.Errorf("Decode(%#x): %#x, %v, not %#x", l, got, e, want)
	}
}

// checkNoPlaces: these bytes are no words that tell places.
func checkNoPlaces(t *testing.T, b []byte) {
	t.Helper()
	if got, e := relr.Decode(b); e != api.ErrRelr || len(got) != 0 {
		t.Errorf("Decode of %d bytes (%x): %#x, %v", len(b), b[:min(len(b), 32)], got, e)
	}
}

// checkWords: these places are told by these words, and back.
func checkWords(t *testing.T, l []uint64, want ...uint64) {
	t.Helper()
	b, e := relr.Encode(l)
	if e != api.OK || !bytes.Equal(b, words(want...)) {
		t.Errorf("Encode(%#x): %x, %v, not %#x", l, b, e, want)
	}
	checkPlaces(t, want, l...)
}

// checkNoWords: these places aren't told.
func checkNoWords(t *testing.T, l ...uint64) {
	t.Helper()
	if b, e := relr.Encode(l); e != api.ErrRelr || len(b) != 0 {
		t.Errorf("Encode of %d places (%#x): %x, %v", len(l), l[:min(len(l), 8)], b, e)
	}
}

// P13.1, P13.2: the chapter's own examples.
func TestExamples(t *testing.T) {
	checkWords(t, []uint64{8, 16, 32}, 8, 11)
	checkPlaces(t, []uint64{8, 3}, 8, 16)
	checkNoPlaces(t, words(3))
}

// P13.1: bytes that are whole words, and all others.
func TestWhole(t *testing.T) {
	for _, b := range [][]byte{nil, {}} {
		if l, e := relr.Decode(b); e != api.OK || len(l) != 0 {
			t.Error(l, e)
		}
	}
	whole := words(8, 3, 512, 5, none, full)
	for many := range len(whole) + 1 {
		if many%8 != 0 {
			checkNoPlaces(t, whole[:many])
		} else if l, e := relr.Decode(whole[:many]); e != api.OK {
			t.Errorf("Decode of %d bytes: %v, %v", many, l, e)
		}
	}
	if l, e := relr.Decode([]byte{0x02, 0x10, 0x20, 0x30, 0x40, 0x50, 0x60, 0x70}); e != api.OK || !slices.Equal(l, []uint64{0x7060504030201002}) {
		t.Error(l, e)
	}
	checkNoPlaces(t, make([]byte, 8*most-1))
	checkNoPlaces(t, make([]byte, 8*most+1))
}

// P13.1: as many words as may be, and more, of either kind.
func TestManyWords(t *testing.T) {
	l := steps(0, most, 2)
	checkPlaces(t, l, l...)
	checkNoPlaces(t, words(append(l, 8)...))
	checkNoPlaces(t, words(append(l, none)...))
	empty := slices.Repeat([]uint64{none}, most)
	checkPlaces(t, append([]uint64{8}, empty[1:]...), 8)
	checkNoPlaces(t, words(append([]uint64{8}, empty...)...))
	checkNoPlaces(t, make([]byte, 8*100000))
}

// P13.1: as many places as may be, and more, though the words are few.
func TestManyPlaces(t *testing.T) {
	l := append([]uint64{1 << 20}, slices.Repeat([]uint64{full}, 8)...) // 505 places
	seven := row(1, 2, 3, 4, 5, 6, 7)
	checkPlaces(t, append(l, seven), steps(1<<20, most, 8)...)
	checkNoPlaces(t, words(append(l, seven|1<<63)...))
	checkNoPlaces(t, words(append(l, full)...))
	checkNoPlaces(t, words(append(l, seven, 8)...))
	checkNoPlaces(t, words(append(l, seven, row(63))...))
	checkPlaces(t, append(l, seven, none), steps(1<<20, most, 8)...)
	checkPlaces(t, append(l, row(1, 2, 3, 4, 5, 6), 16), append(steps(1<<20, most-1, 8), 16)...)
	checkNoPlaces(t, words(append(l, slices.Repeat([]uint64{full}, most-9)...)...))
}

// P13.1: a row of bits counts from somewhere.
func TestOddFirst(t *testing.T) {
	for _, first := range []uint64{none, 3, 9, row(63), full} {
		checkNoPlaces(t, words(first))
		checkNoPlaces(t, words(first, 8))
		checkNoPlaces(t, words(first, 8, 3))
		checkNoPlaces(t, words(none, first))
	}
	checkPlaces(t, []uint64{0}, 0) // the place 0 is one
	checkPlaces(t, []uint64{0, 3}, 0, 8)
	checkPlaces(t, []uint64{0, none}, 0)
}

// P13.1: what each bit tells, and from where the next word counts.
func TestRows(t *testing.T) {
	for i := 1; i <= 63; i++ {
		checkPlaces(t, []uint64{1000, row(i)}, 1000, 1000+8*uint64(i))
		checkPlaces(t, []uint64{1000, none, row(i)}, 1000, 1504+8*uint64(i))
		checkPlaces(t, []uint64{1000, full, row(i)}, append(steps(1000, 64, 8), 1504+8*uint64(i))...)
		checkPlaces(t, []uint64{1000, row(i), row(1)}, 1000, 1000+8*uint64(i), 1512)
		checkPlaces(t, []uint64{1000, row(i), 64, row(1)}, 1000, 1000+8*uint64(i), 64, 72)
	}
	checkPlaces(t, []uint64{8, none}, 8)
	checkPlaces(t, []uint64{8, none, none, none, 3}, 8, 16+3*504)
	checkPlaces(t, []uint64{8, full}, steps(8, 64, 8)...)
	checkPlaces(t, []uint64{8, full, full}, steps(8, 127, 8)...)
	checkPlaces(t, []uint64{8, full, none, full}, append(steps(8, 64, 8), steps(16+2*504, 63, 8)...)...)
	checkPlaces(t, []uint64{6, row(1, 63)}, 6, 14, 510)
	checkPlaces(t, []uint64{8, 3, 100, 5}, 8, 16, 100, 116)
}

// P13.1: even words may fall, come again, or lie among what rows tell.
func TestFalling(t *testing.T) {
	for _, l := range [][]uint64{{16, 8}, {8, 8}, {8, 10}, {1 << 40, 0}, {lastEven, 0, lastEven}, {32, 16, 24, 8, 8}} {
		checkPlaces(t, l, l...)
	}
	checkPlaces(t, []uint64{64, 3, 8, 3}, 64, 72, 8, 16)
	checkPlaces(t, []uint64{64, 3, 64, 3, 72}, 64, 72, 64, 72, 72)
}

// P13.1: from where it counts is a place behind each word, the last one, too.
func TestBeyond(t *testing.T) {
	checkPlaces(t, []uint64{lastEven}, lastEven)
	checkPlaces(t, []uint64{lastEven, 8}, lastEven, 8)
	checkPlaces(t, []uint64{8, lastEven}, 8, lastEven)
	for _, above := range []uint64{2, 4, 8} {
		checkNoPlaces(t, words(lastEven+above))
		checkNoPlaces(t, words(lastEven+above, 8))
		checkNoPlaces(t, words(8, 3, lastEven+above))
	}
	checkNoPlaces(t, words(lastEven, none)) // the row tells no place, but counts on
	checkNoPlaces(t, words(lastEven, 3))
	checkPlaces(t, []uint64{lastForRow, none}, lastForRow)
	checkPlaces(t, []uint64{lastForRow, none, 8}, lastForRow, 8)
	checkPlaces(t, []uint64{lastForRow, full}, steps(lastForRow, 64, 8)...)
	checkPlaces(t, []uint64{lastForRow, full, lastForRow, 3}, append(steps(lastForRow, 64, 8), lastForRow, lastForRow+8)...)
	for _, bits := range []uint64{none, 3, row(63), full} {
		checkNoPlaces(t, words(lastForRow, none, bits))
		checkNoPlaces(t, words(lastForRow+2, bits))
		checkNoPlaces(t, words(lastForRow+2, bits, 8))
		checkNoPlaces(t, words(lastForRow+500, bits))
		checkNoPlaces(t, words(lastForRow-502, none, bits))
		checkNoPlaces(t, words(lastForRow-502, full, bits, 8))
	}
	checkPlaces(t, []uint64{lastForRow - 504, none, row(63)}, lastForRow-504, lastForRow+504)
}

// P13.2: no places, one, and as many as may be.
func TestManyEncoded(t *testing.T) {
	for _, l := range [][]uint64{nil, {}} {
		if b, e := relr.Encode(l); e != api.OK || len(b) != 0 {
			t.Error(b, e)
		}
	}
	checkWords(t, []uint64{0}, 0)
	checkWords(t, []uint64{0, 8}, 0, 3)
	near := append([]uint64{0}, slices.Repeat([]uint64{full}, 8)...)
	checkWords(t, steps(0, most, 8), append(near, row(1, 2, 3, 4, 5, 6, 7))...)
	checkNoWords(t, steps(0, most+1, 8)...)
	far := steps(0, most, 1<<20)
	checkWords(t, far, far...)
	checkNoWords(t, steps(0, most+1, 1<<20)...)
	checkNoWords(t, steps(0, 100000, 8)...)
}

// P13.2: places that can't be told, wherever they stand.
func TestWrong(t *testing.T) {
	for _, one := range []uint64{4097, 4099, 4103, 1<<32 + 1, 1<<63 + 1, huge - 512, huge - 511, huge - 510, huge - 509, huge - 504, huge - 9, huge - 8, huge - 7, huge - 1, huge} {
		checkNoWords(t, one)
		checkNoWords(t, one, 8192)
		checkNoWords(t, 0, one)
		checkNoWords(t, 0, one, one+8)
		checkNoWords(t, append(steps(0, 64, 8), one)...)
		checkNoWords(t, append(steps(0, most-1, 8), one)...)
	}
	// 2^64 - 513 itself is odd; the greatest even one below it is told.
	checkWords(t, []uint64{huge - 513}, huge-513)
	checkWords(t, []uint64{8, huge - 513}, 8, huge-513)
	checkWords(t, []uint64{huge - 521, huge - 513}, huge-521, 3)
	checkWords(t, []uint64{huge - 1017, huge - 513}, huge-1017, row(63))
	checkWords(t, []uint64{huge - 1025, huge - 521, huge - 513}, huge-1025, row(63), 3)
	checkNoWords(t, huge-521, huge-513, huge-505)
	for _, ahead := range []uint64{0, 8, 1000, 1 << 32, huge - 1023} {
		for less := range uint64(8) {
			checkNoWords(t, ahead, ahead+less)
			checkNoWords(t, ahead, ahead+16, ahead+16+less)
			checkNoWords(t, ahead+8, ahead+less)
		}
	}
	checkNoWords(t, 16, 8)
	checkNoWords(t, 1<<40, 8)
	checkNoWords(t, 8, 16, 24, 16)
	checkNoWords(t, lastForRow, 0)
}

// P13.2: what lies among the 63, and what doesn't.
func TestAmong(t *testing.T) {
	for i := 1; i <= 63; i++ {
		checkWords(t, []uint64{1000, 1000 + 8*uint64(i)}, 1000, row(i))
	}
	checkWords(t, []uint64{1000, 1496}, 1000, row(62))
	checkWords(t, []uint64{1000, 1504}, 1000, row(63))
	checkWords(t, []uint64{1000, 1512}, 1000, 1512) // the 64th: no row tells one, so none is there
	checkWords(t, []uint64{1000, 1520}, 1000, 1520)
	checkWords(t, []uint64{1000, 1008, 1504, 1512}, 1000, row(1, 63), row(1))
	checkWords(t, []uint64{1000, 1008, 1512}, 1000, row(1), row(1))
	checkWords(t, []uint64{1000, 1008, 2008}, 1000, row(1), row(63))
	checkWords(t, []uint64{1000, 1008, 2016}, 1000, row(1), 2016) // the 64th of the second row, which would be empty
	checkWords(t, []uint64{1000, 1008, 2016, 2024}, 1000, row(1), 2016, row(1))
	checkWords(t, steps(1000, 64, 8), 1000, full)
	checkWords(t, steps(1000, 65, 8), 1000, full, row(1))
	checkWords(t, steps(1000, 127, 8), 1000, full, full)
	checkWords(t, steps(1000, 3, 512), steps(1000, 3, 512)...)
}

// P13.2: a place that isn't a whole number of eight bytes from where it counts ends a row, though others behind it would lie among the 63.
func TestUneven(t *testing.T) {
	for _, off := range []uint64{2, 4, 6} {
		checkWords(t, []uint64{1000, 1008 + off}, 1000, 1008+off)
		checkWords(t, []uint64{1000, 1016 + off, 1024 + off}, 1000, 1016+off, row(1))
		checkWords(t, []uint64{1000, 1008, 1016 + off}, 1000, row(1), 1016+off)
		checkWords(t, []uint64{1000, 1008, 1016 + off, 1032}, 1000, row(1), 1016+off, 1032)
		checkWords(t, []uint64{1000, 1008, 1016 + off, 1024 + off, 1040}, 1000, row(1), 1016+off, row(1), 1040)
		checkWords(t, []uint64{1000, 1496, 1504 + off, 1512 + off}, 1000, row(62), 1504+off, row(1))
		checkWords(t, []uint64{1000, 1008, 1512 + off}, 1000, row(1), 1512+off)
		// Behind a place that ended a row it counts from that one, not from the row's end.
		checkWords(t, []uint64{1000, 1008, 1024 + off, 1512}, 1000, row(1), 1024+off, 1512)
		checkWords(t, []uint64{1000, 1008, 1024 + off, 1512 + off, 1520 + off}, 1000, row(1), 1024+off, row(61, 62))
		// Places that no multiple of eight is among are told as well.
		checkWords(t, []uint64{off, off + 8, off + 24}, off, 11)
	}
}

// P13.3: rows, however they come, are told by no more words than there are places.
func TestNoMoreWords(t *testing.T) {
	for step := uint64(8); step < 1100; step += 2 {
		for _, many := range []int{1, 2, 3, 70, most} {
			l := steps(4, many, step)
			b, e := relr.Encode(l)
			if e != api.OK || len(b) > 8*many || len(b) == 0 {
				t.Fatal(step, many, len(b), e)
			}
			if back, e := relr.Decode(b); e != api.OK || !slices.Equal(back, l) {
				t.Fatal(step, many, back, e)
			}
		}
	}
}

// Rule 5: what is handed in stays as it is, what is answered is new, and what lies behind a length is no part of it.
func TestMemory(t *testing.T) {
	l := []uint64{8, 16, 32, 7, 9}
	kept := slices.Clone(l)
	b, e := relr.Encode(l[:3])
	if e != api.OK || !bytes.Equal(b, words(8, 11)) || !slices.Equal(l, kept) {
		t.Fatal(b, e, l)
	}
	l[0] = 24
	if !bytes.Equal(b, words(8, 11)) {
		t.Error(b)
	}
	whole := append(words(8, 11), 1, 2, 3)
	got, e := relr.Decode(whole[:16])
	if e != api.OK || !slices.Equal(got, []uint64{8, 16, 32}) {
		t.Fatal(got, e)
	}
	got[0] = 99
	_ = append(got, 98)
	if !bytes.Equal(whole, append(words(8, 11), 1, 2, 3)) {
		t.Error(whole)
	}
	whole[0] = 40
	if again, _ := relr.Decode(words(8, 11)); !slices.Equal(again, []uint64{8, 16, 32}) || got[1] != 16 {
		t.Error(again, got)
	}
}
