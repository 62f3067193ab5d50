// Package mold gives tests the files of libraries, laid down byte by byte, and a plain view of what of a library's memory stands in its file. No layer calls it.
package mold

import (
	"bytes"
	"maps"
	"slices"
	"strings"

	"messuage/api"
)

const (
	memorySize = api.MaxSpan * api.PageSize

	headSize = 64 // of a file's header
	oneSize  = 56 // of a program header
	rowSize  = 64 // of a section's row

	fill = 0xee // where no part stands in the file
)

// Lib is a library that is to be laid down: its memory, its parts (where they stand in the file is told by File), where its dynamic section is, the values of its tags, and what other program headers it has.
type Lib struct {
	Machine uint16
	Image   []byte
	Loads   []api.Phdr
	Dynamic uint64
	Tags    map[uint64]uint64
	Others  []api.Phdr
}

// New: a library of these parts whose memory is all 0.
func New(dynamic uint64, loads ...api.Phdr) *Lib {
	return &Lib{Machine: api.Intel, Image: make([]byte, memorySize), Loads: loads, Dynamic: dynamic, Tags: map[uint64]uint64{}}
}

// Put: lays down numbers of so many bytes each.
func (x *Lib) Put(at uint64, size int, numbers ...uint64) {
	for i, n := range numbers {
		put(x.Image, int(at)+i*size, size, n)
	}
}

// Get: the number of so many bytes at a place.
func (x *Lib) Get(at uint64, size int) uint64 {
	n := uint64(0)
	for i := range size {
		n |= uint64(x.Image[int(at)+i]) << (8 * i)
	}
	return n
}

// Move: lays so many bytes elsewhere; where they were is 0.
func (x *Lib) Move(at, to, size uint64) {
	row := slices.Clone(x.Image[at : at+size])
	clear(x.Image[at : at+size])
	copy(x.Image[to:], row)
}

// File: the library's file. Its headers stand at 0, and are its first part's first bytes; the other parts stand the other way round behind it, so that no place in the file is that of the memory.
func (x *Lib) File() []byte {
	image := slices.Clone(x.Image)
	section := x.section()
	copy(image[x.Dynamic:], section)
	loads, end := x.placed()
	heads := slices.Concat(loads, []api.Phdr{{Type: api.PtDynamic, Vaddr: x.Dynamic, Filesz: uint64(len(section))}}, x.Others)
	copy(image, "\x7fELF\x02\x01\x01")
	for _, p := range [][2]int{{16, 3}, {18, int(x.Machine)}, {32, headSize}, {52, headSize}, {54, oneSize}, {56, len(heads)}} {
		put(image, p[0], 2, uint64(p[1]))
	}
	for i, p := range heads {
		head(image[headSize+oneSize*i:], p)
	}
	b := bytes.Repeat([]byte{fill}, int(end)+16)
	for _, p := range loads {
		copy(b[p.Off:], image[p.Vaddr:p.Vaddr+p.Filesz])
	}
	return b
}

// section: the bytes of the dynamic section, an end behind its tags.
func (x *Lib) section() []byte {
	tags := slices.Sorted(maps.Keys(x.Tags))
	b := make([]byte, 16*(len(tags)+1))
	for i, tag := range tags {
		put(b, 16*i, 8, tag)
		put(b, 16*i+8, 8, x.Tags[tag])
	}
	return b
}

// placed: the parts, with where they stand in the file, and where the last one ends there.
func (x *Lib) placed() ([]api.Phdr, uint64) {
	loads := slices.Clone(x.Loads)
	for i := range loads {
		loads[i].Type = api.PtLoad
	}
	end := loads[0].Filesz
	for i := len(loads) - 1; i > 0; i-- {
		loads[i].Off = (end + api.PageSize - 1) / api.PageSize * api.PageSize
		end = loads[i].Off + loads[i].Filesz
	}
	return loads, end
}

// head: lays down a program header.
func head(b []byte, p api.Phdr) {
	put(b, 0, 4, uint64(p.Type))
	put(b, 4, 4, uint64(p.Flags))
	put(b, 8, 8, p.Off)
	put(b, 16, 8, p.Vaddr)
	put(b, 32, 8, p.Filesz)
	put(b, 40, 8, p.Memsz)
}

// put: lays down a number of so many bytes.
func put(b []byte, at, size int, n uint64) {
	for i := range size {
		b[at+i] = byte(n >> (8 * i))
	}
}

// Section is a row of a file's table of sections.
type Section struct {
	Kind, Link uint32
	Off, Size  uint64
}

// Listed: the file with a table of sections behind it (an empty one ahead of these; the last one holds names), which this linker doesn't look at, and other readers ask for.
func Listed(b []byte, l ...Section) []byte {
	place := len(b)
	b = slices.Concat(b, make([]byte, rowSize*(len(l)+1)))
	put(b, 20, 4, 1)
	put(b, 40, 8, uint64(place))
	for _, p := range [][2]int{{58, rowSize}, {60, len(l) + 1}, {62, len(l)}} {
		put(b, p[0], 2, uint64(p[1]))
	}
	for i, s := range l {
		at := place + rowSize*(i+1)
		put(b, at+4, 4, uint64(s.Kind))
		put(b, at+24, 8, s.Off)
		put(b, at+32, 8, s.Size)
		put(b, at+40, 4, uint64(s.Link))
	}
	return b
}

// Memory is what of a library's memory stands in its file, byte by byte.
type Memory struct {
	loads []api.Phdr
	part  [memorySize]int8 // of which part a byte is, counted from 1; 0: of none
	value [memorySize]byte
}

// Read: that of a file with these parts, which must be such as layer 8 answers.
func Read(b []byte, loads []api.Phdr) *Memory {
	m := &Memory{loads: loads}
	for i, p := range loads {
		for n := range p.Filesz {
			m.part[p.Vaddr+n], m.value[p.Vaddr+n] = int8(i+1), b[p.Off+n]
		}
	}
	return m
}

// Row: so many bytes, if they are all of one part.
func (m *Memory) Row(at, size uint64) (string, bool) {
	if size == 0 {
		return "", slices.ContainsFunc(m.loads, func(p api.Phdr) bool { return at >= p.Vaddr && at <= p.Vaddr+p.Filesz })
	}
	for i := range size {
		// Behind a byte that isn't there none is asked for: at and i never go round.
		if at >= memorySize || at+i >= memorySize || m.part[at+i] == 0 || m.part[at+i] != m.part[at] {
			return "", false
		}
	}
	return string(m.value[at : at+size]), true
}

const (
	firstPlain = 33
	lastPlain  = 126
)

// Text: what stands at a place among strings, up to a byte 0; false: that is no plain text.
func Text(s string, at uint64) (string, bool) {
	if at >= uint64(len(s)) {
		return "", false
	}
	name, _, ended := strings.Cut(s[at:], "\x00")
	outside := strings.IndexFunc(name, func(c rune) bool { return c < firstPlain || c > lastPlain })
	if !ended || outside >= 0 || len(name) > api.MaxName {
		return "", false
	}
	return name, true
}
