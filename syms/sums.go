package syms

import (
	"messuage/api"
	"messuage/head"
	"messuage/le"
)

const (
	upperBits = 0xf0000000
	newBegin  = 5381

	wordSize   = 4
	filterSize = 8
	filterBits = 64

	mostFilter = 64 // filter words
	mostShift  = 31
)

// Sysv: the older sum of a name.
func Sysv(name string) uint32 {
	sum := uint32(0)
	for i := range len(name) {
		sum = sum*16 + uint32(name[i])
		upper := sum & upperBits
		sum = sum&^upper ^ upper>>24
	}
	return sum
}

// Gnu: the newer sum of a name.
func Gnu(name string) uint32 {
	sum := uint32(newBegin)
	for i := range len(name) {
		sum = sum*33 + uint32(name[i])
	}
	return sum
}

// memory is a library's memory, as far as it is out of its file.
//
// What a place and so many words more come to never goes round: of a table the first word is asked first, and where that is there, the place is one within MaxSpan pages.
type memory struct {
	b []byte
	h api.Heads
}

// word: the word that so many others are ahead of from a place on; false: it isn't there.
func (m memory) word(at uint64, ahead uint32) (uint32, bool) {
	off, ok := head.Off(m.h, at+uint64(ahead)*wordSize, wordSize)
	if !ok {
		return 0, false
	}
	n, e := le.U32(m.b, off)
	return n, e == api.OK
}

// filter: likewise, of filter words.
func (m memory) filter(at uint64, ahead uint32) (uint64, bool) {
	off, ok := head.Off(m.h, at+uint64(ahead)*filterSize, filterSize)
	if !ok {
		return 0, false
	}
	n, e := le.U64(m.b, off)
	return n, e == api.OK
}

// older is an older table of sums.
type older struct {
	in                memory
	rows, symbols     uint32
	rowsAt, symbolsAt uint64
}

// older: the older table at a place; false: its first words aren't there.
func (m memory) older(at uint64) (older, bool) {
	rows, has := m.word(at, 0)
	symbols, hasNext := m.word(at, 1)
	if !has || !hasNext {
		return older{}, false
	}
	rowsAt := at + 2*wordSize
	return older{m, rows, symbols, rowsAt, rowsAt + uint64(rows)*wordSize}, true
}

// canBe: has it as many rows as there may be?
func (t older) canBe() bool { return t.rows >= 1 && t.rows <= api.MaxSyms }

// leads: does a table that can be lead to the symbol of a name and a number?
func (t older) leads(name string, number uint32) bool {
	next, ok := t.in.word(t.rowsAt, Sysv(name)%t.rows)
	// Words may lead round in a ring: who hasn't come there by so many steps never does.
	for range t.symbols + 1 {
		if !ok || next == 0 || next >= t.symbols {
			return false
		}
		if next == number {
			return true
		}
		next, ok = t.in.word(t.symbolsAt, next)
	}
	return false
}

// newer is a newer table of sums.
type newer struct {
	in                          memory
	rows, first, words, shift   uint32
	filterAt, rowsAt, symbolsAt uint64
}

// newer: the newer table at a place; false: it can't be.
func (m memory) newer(at uint64) (newer, bool) {
	var heads [4]uint32
	for i := range heads {
		n, ok := m.word(at, uint32(i))
		if !ok {
			return newer{}, false
		}
		heads[i] = n
	}
	t := newer{in: m, rows: heads[0], first: heads[1], words: heads[2], shift: heads[3]}
	if !t.canBe() {
		return newer{}, false
	}
	t.filterAt = at + uint64(len(heads))*wordSize
	t.rowsAt = t.filterAt + uint64(t.words)*filterSize
	t.symbolsAt = t.rowsAt + uint64(t.rows)*wordSize
	return t, true
}

// canBe: are its first words such as may be?
func (t newer) canBe() bool {
	if t.rows < 1 || t.rows > api.MaxSyms || t.first < 1 || t.first > api.MaxSyms {
		return false
	}
	return t.words >= 1 && t.words <= mostFilter && t.words&(t.words-1) == 0 && t.shift <= mostShift
}

// own: the word of the symbol of a number from first on.
func (t newer) own(number uint32) (uint32, bool) { return t.in.word(t.symbolsAt, number-t.first) }

// odd: is a word the last one of its row?
func odd(word uint32) bool { return word%2 == 1 }

// count: how many symbols there are, as far as the rows go; false: it can't be told.
func (t newer) count() (uint32, bool) {
	most := t.first
	for i := range t.rows {
		begin, ok := t.in.word(t.rowsAt, i)
		if !ok || begin != 0 && begin < t.first {
			return 0, false
		}
		if begin < most { // 0 is, too, as first isn't
			continue
		}
		last, ok := t.last(begin)
		if !ok {
			return 0, false
		}
		most = last + 1
	}
	return most, true
}

// last: the number of the first symbol from one on whose word is odd; false: there is none.
func (t newer) last(number uint32) (uint32, bool) {
	for ; number <= api.MaxSyms; number++ {
		word, ok := t.own(number)
		if !ok {
			return 0, false
		}
		if odd(word) {
			return number, true
		}
	}
	return 0, false
}

// leads: does the table lead to the symbol of a name and a number?
func (t newer) leads(name string, number uint32) bool {
	sum := Gnu(name)
	if !t.lets(sum) {
		return false
	}
	begin, ok := t.in.word(t.rowsAt, sum%t.rows)
	if !ok || begin < t.first || begin > number {
		return false
	}
	for ahead := begin; ahead < number; ahead++ {
		if word, ok := t.own(ahead); !ok || odd(word) {
			return false
		}
	}
	word, ok := t.own(number)
	return ok && word|1 == sum|1
}

// lets: does the filter let a sum through?
func (t newer) lets(sum uint32) bool {
	bits, ok := t.in.filter(t.filterAt, sum/filterBits%t.words)
	return ok && bits>>(sum%filterBits)%2 == 1 && bits>>(sum>>t.shift%filterBits)%2 == 1
}
