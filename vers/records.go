package vers

import (
	"slices"

	"messuage/api"
	"messuage/head"
	"messuage/le"
)

// Where in the records stands what is looked at: of versions that the library has itself, their names, libraries that are asked, versions that are asked for.
const (
	kindAt = 0 // of a version of its own, and of a library

	ownSize  = 20
	flagsAt  = 2
	ownAt    = 4 // its number
	namesAt  = 6
	ownFirst = 12
	ownNext  = 16

	nameSize = 8
	textAt   = 0

	libSize  = 16
	manyAt   = 2
	libAt    = 4 // its name
	libFirst = 8
	libNext  = 12

	askedSize = 16
	askedAt   = 6 // its number
	nameAt    = 8
	askedNext = 12
)

const (
	kind     = 1
	fileFlag = 1 // it names the file itself

	firstNumber = 2
	lastNumber  = lowerBits
)

// record is bytes of a library's memory, and where they lie in it.
type record struct {
	at   uint64
	here []byte
}

// two: the number of two bytes at a place that is one of the record's.
func (x record) two(at uint64) uint16 {
	n, _ := le.U16(x.here, at)
	return n
}

// four: the number of four bytes at a place that is one of the record's.
func (x record) four(at uint64) uint32 {
	n, _ := le.U32(x.here, at)
	return n
}

// row is records each of which leads to the next one: how many there are at most, how many bytes one has, and where in it stands how far behind it the next one is.
type row struct {
	many, size, next uint64
}

// reader goes along the records of a library, and gathers the versions that they tell.
type reader struct {
	b       []byte
	h       api.Heads
	strings []byte
	found   []Version
}

// record: so many bytes so far behind a place; false: they aren't all in one part of the file.
func (r *reader) record(from uint64, behind uint32, size uint64) (record, bool) {
	at := from + uint64(behind)
	here, ok := head.Part(r.b, r.h, at, size)
	// A sum that has gone round is no place behind the other one.
	return record{at, here}, ok && at >= from
}

// along: takes each record of a row whose first one is so far behind a place; false: one isn't there, or may not be.
func (r *reader) along(from uint64, behind uint32, l row, take func(x record) bool) bool {
	for range l.many {
		x, ok := r.record(from, behind, l.size)
		if !ok || !take(x) {
			return false
		}
		from, behind = x.at, x.four(l.next)
		if behind == 0 {
			return true
		}
	}
	return true
}

// own: takes a version that the library has; false: it may not be.
func (r *reader) own(x record) bool {
	first, ok := r.record(x.at, x.four(ownFirst), nameSize)
	if !ok || x.two(kindAt) != kind || x.two(namesAt) == 0 {
		return false
	}
	name, ok := r.text(first.four(textAt))
	if !ok {
		return false
	}
	if x.two(flagsAt)&fileFlag != 0 {
		return true
	}
	return r.add(Version{Number: x.two(ownAt), Name: name})
}

// lib: takes the versions that a library is asked for; false: they may not be, or it may not.
func (r *reader) lib(x record) bool {
	from, ok := r.text(x.four(libAt))
	if !ok || x.two(kindAt) != kind {
		return false
	}
	asked := row{uint64(x.two(manyAt)), askedSize, askedNext}
	return r.along(x.at, x.four(libFirst), asked, func(x record) bool {
		name, ok := r.text(x.four(nameAt))
		return ok && r.add(Version{x.two(askedAt), name, from})
	})
}

// text: the text at a place among the strings; false: there is none, or an empty one.
func (r *reader) text(at uint32) (string, bool) {
	s, e := le.Text(r.strings, uint64(at))
	return s, e == api.OK && s != ""
}

// add: one more version; false: its number can't be one's, or is another one's, or there are too many.
func (r *reader) add(v Version) bool {
	taken := slices.ContainsFunc(r.found, func(other Version) bool { return other.Number == v.Number })
	if taken || v.Number < firstNumber || v.Number > lastNumber || len(r.found) == api.MaxVers {
		return false
	}
	r.found = append(r.found, v)
	return true
}
