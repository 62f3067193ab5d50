package maker

import (
	"messuage/api"
	"messuage/le"
)

const (
	magic       = "\x7fELF\x02\x01\x01" // of 64 bits, the lowest byte first, of the one version that there is
	magicRoom   = 16                    // up to the type
	library     = 3                     // the type
	formVersion = 1                     // of files, the one that there is
	headerSize  = 64                    // of a file
	headSize    = 56                    // of a program header
	fewHeads    = 3                     // the two parts, and the dynamic section; one more for read-only pages

	entrySize = 16 // of a dynamic section
	unit      = 8  // at whose multiples all pieces begin, as what is in them has up to so many bytes
)

// draft is what stands ahead of a library's data, as far as it is laid down.
type draft struct {
	spec   api.Spec
	data   uint64 // where they begin
	texts  texts
	behind *le.Buf // behind the headers, which are told last
	tags   []tag
}

// tag is an entry of the dynamic section.
type tag struct {
	kind, value uint64
}

// ahead: all that stands ahead of the data, if they begin at a place.
func ahead(s api.Spec, at uint64) []byte {
	x := &draft{spec: s, data: at, texts: newTexts(), behind: le.New()}
	x.putNames()
	x.putFlags()
	x.putSymbols()
	x.putSums()
	x.putVersions()
	x.putFunctions()
	x.putMoves()
	x.area(tagStrings, tagStringsSize, x.texts.bytes)
	f := le.New()
	x.putHeaders(f, x.putDynamic())
	f.Raw(x.behind.Bytes())
	return f.Bytes()
}

// end: where in the memory, and in the file, ends what is laid down.
func (x *draft) end() uint64 { return headersSize(x.spec) + uint64(x.behind.Len()) }

// say: one more entry of the dynamic section.
func (x *draft) say(kind, value uint64) { x.tags = append(x.tags, tag{kind, value}) }

// piece: lays down bytes to which an entry leads.
func (x *draft) piece(kind uint64, b []byte) {
	x.behind.To(unit)
	x.say(kind, x.end())
	x.behind.Raw(b)
}

// area: likewise, with another entry that tells how many they are.
func (x *draft) area(kind, size uint64, b []byte) {
	x.piece(kind, b)
	x.say(size, uint64(len(b)))
}

// sayText: an entry that leads to a text; none for one that is empty.
func (x *draft) sayText(kind uint64, s string) {
	if s != "" {
		x.say(kind, x.texts.at(s))
	}
}

// putNames: the library's own texts, and the names of those that it needs.
func (x *draft) putNames() {
	for _, name := range x.spec.Needed {
		x.sayText(tagNeeded, name)
	}
	x.sayText(tagSoname, x.spec.Soname)
	x.sayText(tagRunpath, x.spec.Runpath)
}

// putFlags: how the library wants to be taken.
func (x *draft) putFlags() {
	if x.spec.Symbolic {
		x.say(tagFlags, flagSymbolic)
	}
	flags := uint64(0)
	if x.spec.Global {
		flags |= flagGlobal
	}
	if x.spec.Nodelete {
		flags |= flagNodelete
	}
	if flags != 0 {
		x.say(tagFlags1, flags)
	}
}

// putFunctions: lists of as many functions as begin and end the library. Just how many there are is told: there is no code for them to lead to.
func (x *draft) putFunctions() {
	if many := x.spec.Init; many > 0 {
		x.area(tagInit, tagInitSize, make([]byte, slotSize*many))
	}
	if many := x.spec.Fini; many > 0 {
		x.area(tagFini, tagFiniSize, make([]byte, slotSize*many))
	}
}

// putDynamic: lays down the dynamic section, and packed relocations; its program header.
func (x *draft) putDynamic() api.Phdr {
	x.behind.To(unit)
	at := x.end()
	// Packed relocations come last, without a gap: then all the rest has one size, wherever the data begin. Their own two entries are still to be counted, and the end.
	list := packed(x.spec, x.data)
	if list != nil {
		kind, size := packedTags(x.spec.Rela)
		x.say(kind, at+entrySize*uint64(len(x.tags)+3))
		x.say(size, uint64(len(list)))
	}
	x.say(tagEnd, 0)
	for _, t := range x.tags {
		x.behind.Put64(t.kind)
		x.behind.Put64(t.value)
	}
	size := x.end() - at
	x.behind.Raw(list)
	return api.Phdr{Type: api.PtDynamic, Flags: api.R, Off: at, Vaddr: at, Filesz: size, Memsz: size, Align: unit}
}

// heads: how many program headers a library has.
func heads(s api.Spec) int {
	if s.Relro > 0 {
		return fewHeads + 1
	}
	return fewHeads
}

// headersSize: how many bytes the headers have: as many as end at a multiple of eight.
func headersSize(s api.Spec) uint64 { return headerSize + headSize*uint64(heads(s)) }

// putHeaders: lays down the file's header and the program headers, when all behind them is laid down.
func (x *draft) putHeaders(f *le.Buf, dynamic api.Phdr) {
	putHeader(f, x.spec)
	size := x.end()
	putHead(f, api.Phdr{Type: api.PtLoad, Flags: api.R, Filesz: size, Memsz: size, Align: api.PageSize})
	own := uint64(len(x.spec.Data))
	putHead(f, api.Phdr{Type: api.PtLoad, Flags: api.R | api.W, Off: x.data, Vaddr: x.data, Filesz: own, Memsz: partSize(x.spec), Align: api.PageSize})
	putHead(f, dynamic)
	if pages := uint64(x.spec.Relro); pages > 0 {
		putHead(f, api.Phdr{Type: api.PtRelro, Flags: api.R, Off: x.data, Vaddr: x.data, Filesz: pages * api.PageSize, Memsz: pages * api.PageSize, Align: 1})
	}
}

// putHeader: the file's header.
func putHeader(f *le.Buf, s api.Spec) {
	f.Raw([]byte(magic))
	f.To(magicRoom)
	f.Put16(library)
	f.Put16(s.Machine)
	f.Put32(formVersion)
	f.Put64(0) // where it begins to run: nowhere
	f.Put64(headerSize)
	f.Put64(0) // where its sections are told: nowhere
	f.Put32(0)
	f.Put16(headerSize)
	f.Put16(headSize)
	f.Put16(uint16(heads(s)))
	f.Zeros(headerSize - f.Len())
}

// putHead: a program header.
func putHead(f *le.Buf, p api.Phdr) {
	f.Put32(p.Type)
	f.Put32(p.Flags)
	f.Put64(p.Off)
	f.Put64(p.Vaddr)
	f.Put64(p.Vaddr) // the place in a memory without spaces, which nobody looks at
	f.Put64(p.Filesz)
	f.Put64(p.Memsz)
	f.Put64(p.Align)
}
