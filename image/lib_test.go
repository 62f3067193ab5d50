package image_test

import (
	"bytes"
	"encoding/binary"
	"math"
	"reflect"
	"slices"
	"strings"
	"testing"

	"messuage/api"
	"messuage/aps"
	"messuage/dyn"
	"messuage/head"
	"messuage/image"
	"messuage/mold"
)

const (
	huge = math.MaxUint64
	most = 512 // relocations

	// Where things lie in the memory of the tests' libraries. Each part ends where the next one begins, but the last but one: behind its bytes of the file are noughts, and behind those nothing, up to the page's end.
	dynAt     = 600
	secondAt  = 1280
	stringsAt = 1281
	symbolsAt = 1501
	hashAt    = 1701
	defsAt    = 1801
	needsAt   = 1901
	numbersAt = 2001
	listsAt   = 2560
	dataAt    = 15104
	noughtsAt = 15616
	lastFile  = 15816
	lastEnd   = 16056
	endAt     = 16128
	spanEnd   = 16384

	symbols = 4 // of a library of the tests, the empty one counted

	texts = "\x00f\x00g\x00h\x00a.so\x00b.so\x00V1\x00C1\x00/lib\x00"
)

// machines: those that there are.
func machines() []uint16 { return []uint16{api.Intel, api.Arm} }

// The forms in which relocations are told, in the order in which they are read; with: with what is added.
const (
	packed = iota
	packedWith
	bits
	rel
	rela
	plt
	pltWith
)

// form is one of them: its tags, the value of the third one (Plt's), whether it is one with what is added, and the error of one that may not be.
type form struct {
	name           string
	at, size, kind uint64
	with           bool
	wrong          api.Errno
}

// forms: all of them.
func forms() []form {
	return []form{
		packed:     {"packed", 0x6000000f, 0x60000010, 0, false, api.ErrAps},
		packedWith: {"packed, with", 0x60000011, 0x60000012, 0, true, api.ErrAps},
		bits:       {"relr", 36, 35, 0, false, api.ErrRelr},
		rel:        {"rel", 17, 18, 0, false, api.ErrRels},
		rela:       {"rela", 7, 8, 0, true, api.ErrRels},
		plt:        {"plt", 23, 2, 17, false, api.ErrRels},
		pltWith:    {"plt, with", 23, 2, 7, true, api.ErrRels},
	}
}

// beside: can a library have lists of both forms? (There is one of Packed, and one of Plt.)
func (f form) beside(g form) bool {
	return f.at != g.at && (f.wrong != api.ErrAps || g.wrong != api.ErrAps)
}

// relative: the type that says so on a machine.
func relative(machine uint16) uint32 { return map[uint16]uint32{api.Intel: 8, api.Arm: 1027}[machine] }

// moves: so many relocations that a list of this form can tell, at places eight bytes apart.
func (f form) moves(machine uint16, at uint64, many int) []api.Rel {
	var l []api.Rel
	for i := range many {
		r := api.Rel{At: at + 8*uint64(i), Type: relative(machine), Has: f.with}
		if f.with {
			r.Add = int64(i) - 5
		}
		l = append(l, r)
	}
	return l
}

// bytes: the list that tells relocations; of rows of bits just their places, each by itself.
func (f form) bytes(l []api.Rel) []byte {
	if f.wrong == api.ErrAps {
		b, e := aps.Encode(l, f.with)
		if e != api.OK {
			panic(e)
		}
		return b
	}
	var b []byte
	for _, r := range l {
		b = binary.LittleEndian.AppendUint64(b, r.At)
		if f.wrong == api.ErrRels {
			b = binary.LittleEndian.AppendUint32(b, r.Type)
			b = binary.LittleEndian.AppendUint32(b, r.Sym)
		}
		if f.with {
			b = binary.LittleEndian.AppendUint64(b, uint64(r.Add))
		}
	}
	return b
}

// words: numbers of eight bytes.
func words(l ...uint64) []byte {
	var b []byte
	for _, n := range l {
		b = binary.LittleEndian.AppendUint64(b, n)
	}
	return b
}

// lib is a library that is to be written, and where its next list is to lie: from the end of the lists' part down, so that they lie the other way round than they are laid down.
type lib struct {
	*mold.Lib
	free uint64
}

// small: a library of three symbols: f is its own, g and h it asks for. It tells no relocations, and has no versions.
func small(machine uint16) *lib {
	x := &lib{mold.New(dynAt,
		api.Phdr{Flags: 4, Vaddr: 0, Filesz: secondAt, Memsz: secondAt},
		api.Phdr{Flags: 4, Vaddr: secondAt, Filesz: listsAt - secondAt, Memsz: listsAt - secondAt},
		api.Phdr{Flags: 4, Vaddr: listsAt, Filesz: dataAt - listsAt, Memsz: dataAt - listsAt},
		api.Phdr{Flags: 6, Vaddr: dataAt, Filesz: noughtsAt - dataAt, Memsz: noughtsAt - dataAt},
		api.Phdr{Flags: 6, Vaddr: noughtsAt, Filesz: lastFile - noughtsAt, Memsz: lastEnd - noughtsAt},
		api.Phdr{Flags: 5, Vaddr: endAt, Filesz: spanEnd - endAt, Memsz: spanEnd - endAt},
	), dataAt}
	x.Machine = machine
	x.Tags = map[uint64]uint64{5: stringsAt, 10: uint64(len(texts)), 6: symbolsAt, 4: hashAt, 14: text("a.so"), 1: text("b.so")}
	copy(x.Image[stringsAt:], texts)
	x.symbol(1, text("f"), 0x11, 1, dataAt+8, 8)
	x.symbol(2, text("g"), 0x10, 0, 0, 0)
	x.symbol(3, text("h"), 0x22, 0, 0, 0)
	x.Put(hashAt, 4, 1, symbols, 1)
	return x
}

// text: where a text stands among the strings.
func text(s string) uint64 { return uint64(strings.Index(texts, "\x00"+s+"\x00")) + 1 }

// symbol: lays down a symbol's record.
func (x *lib) symbol(number, name, info, where, value, size uint64) {
	at := symbolsAt + 24*number
	x.Put(at, 4, name)
	x.Put(at+4, 2, info, where)
	x.Put(at+8, 8, value, size)
}

// smallSymbols: what its symbols are.
func smallSymbols() []api.Sym {
	return []api.Sym{{}, {Name: "f", Bind: 1, Defined: true, Value: dataAt + 8, Size: 8}, {Name: "g", Bind: 1}, {Name: "h", Bind: 2}}
}

// versioned: the library with a version of its own, V1, which f has, hidden, and one that it asks for, C1, which g has.
func (x *lib) versioned() *lib {
	x.Put(defsAt, 2, 1, 1, 1, 1)
	x.Put(defsAt+8, 4, 0, 20, 28, text("a.so"), 0)
	x.Put(defsAt+28, 2, 1, 0, 2, 1)
	x.Put(defsAt+36, 4, 0, 20, 0, text("V1"), 0)
	x.Put(needsAt, 2, 1, 1)
	x.Put(needsAt+4, 4, text("b.so"), 16, 0)
	x.Put(needsAt+22, 2, 3)
	x.Put(needsAt+24, 4, text("C1"), 0)
	x.Put(numbersAt, 2, 0, 2|1<<15, 3, 1)
	return x.tag(0x6ffffffc, defsAt).tag(0x6ffffffd, 2).tag(0x6ffffffe, needsAt).tag(0x6fffffff, 1).tag(0x6ffffff0, numbersAt)
}

// versionedSymbols: what its symbols are.
func versionedSymbols() []api.Sym {
	l := smallSymbols()
	l[1].Ver, l[1].Hidden, l[2].Ver = "V1", true, "C1"
	return l
}

// tag: the library with another value of a tag.
func (x *lib) tag(tag, value uint64) *lib {
	x.Tags[tag] = value
	return x
}

// lies: the library with a list of a form, whose bytes lie at a place.
func (x *lib) lies(f form, at uint64, list []byte) *lib {
	copy(x.Image[at:], list)
	if f.kind != 0 {
		x.Tags[20] = f.kind
	}
	return x.tag(f.at, at).tag(f.size, uint64(len(list)))
}

// tells: the library with a list of a form, laid where there is room.
func (x *lib) tells(f form, list []byte) *lib {
	x.free -= uint64(len(list))
	return x.lies(f, x.free, list)
}

// moved: the library with relocations, told in a form.
func (x *lib) moved(f form, l ...api.Rel) *lib { return x.tells(f, f.bytes(l)) }

// whole: a library that has all that one can have: versions, read-only pages, functions to begin and to end, relocations of each form.
func whole(machine uint16) *lib {
	x := small(machine).versioned()
	x.Others = []api.Phdr{{Type: api.PtRelro, Vaddr: dataAt, Memsz: 256}, {Type: 7, Vaddr: 1, Memsz: 1}}
	x.tag(29, text("/lib")).tag(16, 0).tag(0x6ffffffb, 10).tag(11, 24).tag(9, 24).tag(19, 16).tag(37, 8)
	x.tag(25, dataAt+256).tag(27, 24).tag(26, lastEnd-16).tag(28, 16)
	for i, f := range forms() {
		if i == packedWith || i == plt {
			continue
		}
		l := f.moves(machine, dataAt+32*uint64(i), 2)
		if i != bits {
			l[0].Type, l[0].Sym = map[uint16]uint32{api.Intel: 1, api.Arm: 257}[machine], uint32(i)%symbols
		}
		x.moved(f, l...)
	}
	return x
}

// wholeMoves: its relocations.
func wholeMoves(machine uint16) []api.Rel {
	absolute, own := map[uint16]uint32{api.Intel: 1, api.Arm: 257}[machine], relative(machine)
	return []api.Rel{
		{At: dataAt, Type: absolute}, {At: dataAt + 8, Type: own},
		{At: dataAt + 64, Type: own}, {At: dataAt + 72, Type: own},
		{At: dataAt + 96, Type: absolute, Sym: 3}, {At: dataAt + 104, Type: own},
		{At: dataAt + 128, Type: absolute, Sym: 0, Add: -5, Has: true}, {At: dataAt + 136, Type: own, Add: -4, Has: true},
		{At: dataAt + 192, Type: absolute, Sym: 2, Add: -5, Has: true}, {At: dataAt + 200, Type: own, Add: -4, Has: true},
	}
}

// parse: what a file says; it must be a right one.
func parse(t *testing.T, what string, b []byte) api.Lib {
	t.Helper()
	l, e := image.Parse(b)
	if e != api.OK {
		t.Errorf("%s: %v", what, e)
	}
	return l
}

// says: a library's relocations, what else it says being what the layers below do.
func says(t *testing.T, what string, x *lib, want ...api.Rel) {
	t.Helper()
	b := x.File()
	l := parse(t, what, b)
	if !slices.Equal(l.Rels, want) {
		t.Errorf("%s: %+v, not %+v", what, l.Rels, want)
	}
	h, _ := head.Parse(b)
	d, e := dyn.Parse(b, h)
	if !reflect.DeepEqual(l.Heads, h) || !reflect.DeepEqual(l.Dyn, d) || e != api.OK {
		t.Errorf("%s: %+v, %+v, not %+v, %+v", what, l.Heads, l.Dyn, h, d)
	}
	if d.Versym == 0 && d.Symtab == symbolsAt && !slices.Equal(l.Syms, smallSymbols()) {
		t.Errorf("%s: %+v", what, l.Syms)
	}
	if l.Init != int(d.Init.Size)/8 || l.Fini != int(d.Fini.Size)/8 {
		t.Errorf("%s: %d, %d", what, l.Init, l.Fini)
	}
}

// refuses: a file may not be, and nothing is said beside the error.
func refuses(t *testing.T, what string, b []byte, want api.Errno) {
	t.Helper()
	l, e := image.Parse(b)
	if e != want || !reflect.DeepEqual(l, api.Lib{}) {
		t.Errorf("%s: %+v, %v, not %v", what, l, e, want)
	}
}

// fails: likewise, of a library.
func fails(t *testing.T, what string, x *lib, want api.Errno) {
	t.Helper()
	refuses(t, what, x.File(), want)
}

// shifted: the file with its parts so many bytes further on, and headers that stand in no part: the file's header at 0, the program headers at a place of their own. All bytes of no part are noughts.
func shifted(b []byte, by uint64) []byte {
	const place = 200
	many := int(b[56])
	out := slices.Concat(make([]byte, by), b)
	copy(out, b[:64])
	binary.LittleEndian.PutUint64(out[32:], place)
	copy(out[place:], b[64:64+56*many])
	loads := out[by:]
	for i := range many {
		one := out[place+56*i:]
		if binary.LittleEndian.Uint32(one) == api.PtLoad {
			binary.LittleEndian.PutUint64(one[8:], binary.LittleEndian.Uint64(one[8:])+by)
		}
	}
	for i, part := range inParts(b) {
		if !part {
			loads[i] = 0
		}
	}
	return out
}

// inParts: which bytes of a file stand in one of its parts.
func inParts(b []byte) []bool {
	h, e := head.Parse(b)
	if e != api.OK {
		panic(e)
	}
	l := make([]bool, len(b))
	for _, p := range h.Loads {
		for i := range p.Filesz {
			l[p.Off+i] = true
		}
	}
	return l
}

// longer: the file with bytes behind it, so that it has so many.
func longer(b []byte, size int) []byte {
	return slices.Concat(b, bytes.Repeat([]byte{0xee}, size-len(b)))
}
