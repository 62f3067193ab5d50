package vers_test

import (
	"math"
	"slices"
	"strconv"
	"strings"
	"testing"

	"messuage/api"
	"messuage/dyn"
	"messuage/head"
	"messuage/mold"
	"messuage/syms"
	"messuage/vers"
)

const (
	huge = math.MaxUint64

	// Where things lie in the memory of the tests' libraries.
	dynAt     = 512
	secondAt  = 1024
	defsAt    = 1031
	secondEnd = 4000 // of its bytes of the file
	thirdAt   = 4096
	needsAt   = 4103
	versymAt  = 6001
	recordsAt = 7000
	hashAt    = 9001
	stringsAt = 10001
	thirdEnd  = 12000 // of its bytes of the file
	spanEnd   = 12288

	versymTag   = 0x6ffffff0
	verdefTag   = 0x6ffffffc
	verdefsTag  = 0x6ffffffd
	verneedTag  = 0x6ffffffe
	verneedsTag = 0x6fffffff

	ownNext  = 16 // where in a record of an own version stands how far the next one is
	libNext  = 12 // of a library
	askNext  = 12 // of a version that is asked for
	ownFirst = 12 // how far its name is
	libFirst = 8  // how far the first version is
)

// own is a record of a version that a library has, as tests write it down; flags 1: it names the file itself.
type own struct {
	flags, number uint16
	name          string
}

// ask is a version that is asked for.
type ask struct {
	number uint16
	name   string
}

// from is a library that is asked, and what for.
type from struct {
	name string
	asks []ask
}

// lib is a library that is to be written, with where its records lie: of its own versions, of their names, of the libraries that are asked, and of what they are asked for.
type lib struct {
	*mold.Lib
	defs, names, needs, asks []uint64
}

// empty: a library without versions.
func empty() *lib {
	x := &lib{Lib: mold.New(dynAt,
		api.Phdr{Flags: 4, Vaddr: 0, Filesz: secondAt, Memsz: secondAt},
		api.Phdr{Flags: 4, Vaddr: secondAt, Filesz: secondEnd - secondAt, Memsz: thirdAt - secondAt},
		api.Phdr{Flags: 6, Vaddr: thirdAt, Filesz: thirdEnd - thirdAt, Memsz: spanEnd - thirdAt},
	)}
	x.Tags = map[uint64]uint64{5: stringsAt, 10: 1, 6: recordsAt, 4: hashAt}
	return x
}

// write: a library that has these versions, and asks these libraries, as linkers lay them down.
func write(l []own, m ...from) *lib {
	x := empty()
	x.tag(verdefTag, defsAt).tag(verdefsTag, uint64(len(l))).tag(verneedTag, needsAt).tag(verneedsTag, uint64(len(m))).tag(versymTag, versymAt)
	for i, one := range l {
		at := defsAt + 28*uint64(i)
		x.own(at, one, at+20, next(28, i, len(l)))
	}
	at := uint64(needsAt)
	for i, one := range m {
		size := 16 * uint64(len(one.asks)+1)
		x.lib(at, one, at+16, next(size, i, len(m)))
		for j, a := range one.asks {
			x.ask(at+16*uint64(j+1), a, next(16, j, len(one.asks)))
		}
		at += size
	}
	return x
}

// next: how far the next one is, of a row of so many; 0, if it is the last one.
func next(size uint64, number, many int) uint64 {
	if number == many-1 {
		return 0
	}
	return size
}

// own: lays down a version of the library's own and, elsewhere, its name's record. What isn't asked isn't 0.
func (x *lib) own(at uint64, one own, name, next uint64) {
	x.Put(at, 2, 1, uint64(one.flags), uint64(one.number), 1)
	x.Put(at+8, 4, 0xabababab, name-at, next)
	x.Put(name, 4, x.text(one.name), 0xcdcdcdcd)
	x.defs, x.names = append(x.defs, at), append(x.names, name)
}

// lib: lays down a library that is asked.
func (x *lib) lib(at uint64, one from, first, next uint64) {
	x.Put(at, 2, 1, uint64(len(one.asks)))
	x.Put(at+4, 4, x.text(one.name), first-at, next)
	x.needs = append(x.needs, at)
}

// ask: lays down a version that is asked for.
func (x *lib) ask(at uint64, one ask, next uint64) {
	x.Put(at, 4, 0xabababab)
	x.Put(at+4, 2, 0xcdcd, uint64(one.number))
	x.Put(at+8, 4, x.text(one.name), next)
	x.asks = append(x.asks, at)
}

// text: lays a text down behind the strings; where it stands.
func (x *lib) text(s string) uint64 {
	at := x.Tags[10]
	copy(x.Image[stringsAt+at:thirdEnd], s+"\x00")
	x.Tags[10] += uint64(len(s) + 1)
	return at
}

// tag: the library with another value of a tag.
func (x *lib) tag(tag, value uint64) *lib {
	x.Tags[tag] = value
	return x
}

// two, four: the library with another number of two, four bytes at a place.
func (x *lib) two(at, n uint64) *lib  { x.Put(at, 2, n); return x }
func (x *lib) four(at, n uint64) *lib { x.Put(at, 4, n); return x }

// numbers: the library with these numbers of its symbols' versions.
func (x *lib) numbers(l ...uint16) *lib {
	for i, n := range l {
		x.two(versymAt+2*uint64(i), uint64(n))
	}
	return x
}

// layers: what layers 8 and 9 answer for a file.
func layers(t *testing.T, b []byte) (api.Heads, api.Dyn) {
	t.Helper()
	h, e := head.Parse(b)
	if e != api.OK {
		t.Fatal("head:", e)
	}
	d, e := dyn.Parse(b, h)
	if e != api.OK {
		t.Fatal("dyn:", e)
	}
	return h, d
}

// check: which versions a library has, or that it may not be.
func check(t *testing.T, what string, x *lib, wantErr api.Errno, want ...vers.Version) {
	t.Helper()
	b := x.File()
	h, d := layers(t, b)
	if l, e := vers.List(b, h, d); e != wantErr || !slices.Equal(l, want) {
		t.Errorf("List, %s:\n%v, %v, not\n%v, %v", what, l, e, want, wantErr)
	}
	// Put says the same of it; here no symbol has a number.
	if l, e := vers.Put(b, h, d, nil); e != wantErr || len(l) != 0 {
		t.Errorf("Put, %s:\n%v, %v, not %v", what, l, e, wantErr)
	}
}

// fails: the library may not be.
func fails(t *testing.T, what string, x *lib) {
	t.Helper()
	check(t, what, x, api.ErrVersion)
}

// checkPut: what becomes of symbols.
func checkPut(t *testing.T, what string, x *lib, l []api.Sym, wantErr api.Errno, want ...api.Sym) {
	t.Helper()
	b := x.File()
	h, d := layers(t, b)
	if m, e := vers.Put(b, h, d, l); e != wantErr || !slices.Equal(m, want) {
		t.Errorf("Put, %s:\n%+v, %v, not\n%+v, %v", what, m, e, want, wantErr)
	}
}

// some: a library that has two versions, the file itself ahead, and asks two others.
func some() *lib {
	return write([]own{{1, 1, "liba.so"}, {0, 2, "V1"}, {2, 3, "V2"}},
		from{"libb.so", []ask{{4, "B1"}, {5, "B2"}}}, from{"libc.so", []ask{{7, "C"}}})
}

// someSaid: its versions.
func someSaid() []vers.Version {
	return []vers.Version{{2, "V1", ""}, {3, "V2", ""}, {4, "B1", "libb.so"}, {5, "B2", "libb.so"}, {7, "C", "libc.so"}}
}

// ownOnes: versions that a library has, so many, their numbers from one on.
func ownOnes(many, number int) []own {
	var l []own
	for i := range many {
		l = append(l, own{0, uint16(number + i), "V" + strconv.Itoa(number+i)})
	}
	return l
}

// askedOnes: likewise, such as it asks for.
func askedOnes(many, number int) []ask {
	var l []ask
	for i := range many {
		l = append(l, ask{uint16(number + i), "A" + strconv.Itoa(number+i)})
	}
	return l
}

// said: what such a library says: so many of its own from 2 on, then so many of library a.
func said(has, asks int) []vers.Version {
	var l []vers.Version
	for i := range has {
		l = append(l, vers.Version{Number: uint16(2 + i), Name: "V" + strconv.Itoa(2+i)})
	}
	for i := range asks {
		l = append(l, vers.Version{Number: uint16(2 + has + i), Name: "A" + strconv.Itoa(2+has+i), From: "a"})
	}
	return l
}

// P11.1, P11.2: the chapter's example: a library without these tags.
func TestExample(t *testing.T) {
	x := empty()
	l := []api.Sym{{}, {Name: "f", Bind: 1, Defined: true, Value: 640, Size: 8}, {Name: "g", Bind: 2}}
	check(t, "no tags", x, api.OK)
	checkPut(t, "no tags", x, l, api.OK, l...)
}

// P11.1: own versions, then those that are asked for, in order.
func TestList(t *testing.T) {
	check(t, "some", some(), api.OK, someSaid()...)
	check(t, "its own alone", write(ownOnes(3, 2)), api.OK, said(3, 0)...)
	check(t, "asked ones alone", write(nil, from{"a", askedOnes(3, 2)}), api.OK, said(0, 3)...)
	check(t, "both", write(ownOnes(2, 2), from{"a", askedOnes(3, 4)}), api.OK, said(2, 3)...)
	check(t, "none", write(nil), api.OK)
	check(t, "just the file itself", write([]own{{1, 1, "a.so"}}), api.OK)
	// Numbers and names needn't rise; names may be alike, those of libraries, too.
	check(t, "in no order", write([]own{{0, 9, "b"}, {0, 3, "b"}, {1, 1, "b"}, {0, 32767, "a"}}, from{"z", []ask{{8, "b"}}}, from{"z", []ask{{2, "b"}, {4, "a"}}}), api.OK,
		vers.Version{Number: 9, Name: "b"}, vers.Version{Number: 3, Name: "b"}, vers.Version{Number: 32767, Name: "a"},
		vers.Version{Number: 8, Name: "b", From: "z"}, vers.Version{Number: 2, Name: "b", From: "z"}, vers.Version{Number: 4, Name: "a", From: "z"})
	check(t, "a library that is asked for nothing", write(nil, from{"a", nil}, from{"b", nil}, from{"c", []ask{{2, "C"}}}), api.OK, vers.Version{Number: 2, Name: "C", From: "c"})
	// Versym isn't looked at.
	for _, at := range []uint64{0, spanEnd, huge} {
		x := some().tag(versymTag, at)
		b := x.File()
		h, d := layers(t, b)
		if l, e := vers.List(b, h, d); e != api.OK || !slices.Equal(l, someSaid()) {
			t.Errorf("Versym %d: %v, %v", at, l, e)
		}
	}
}

// P11.1: Verdef or Verneed 0, and counts of 0: nothing is looked at there; counts at their limit, and above it.
func TestCounts(t *testing.T) {
	for _, many := range []uint64{0, 1, 2, 32, 33} {
		check(t, "Verdef 0", some().tag(verdefTag, 0).tag(verdefsTag, many), api.OK, someSaid()[2:]...)
	}
	for _, many := range []uint64{0, 1, 2, 31, 32} {
		check(t, "Verneed 0", some().tag(verneedTag, 0).tag(verneedsTag, many), api.OK, someSaid()[:2]...)
		check(t, "both 0", some().tag(verdefTag, 0).tag(verneedTag, 0).tag(verneedsTag, many), api.OK)
	}
	for _, many := range []uint64{34, 35, 256, 1 << 16, 1<<32 + 1, 1 << 63, huge} {
		for _, at := range []uint64{0, defsAt} {
			fails(t, "too many of its own", some().tag(verdefTag, at).tag(verdefsTag, many))
			fails(t, "too many of its own, none asked for", some().tag(verdefTag, at).tag(verdefsTag, many).tag(verneedTag, 0))
		}
	}
	for _, many := range []uint64{33, 34, 256, 1 << 16, 1<<32 + 1, 1 << 63, huge} {
		for _, at := range []uint64{0, needsAt} {
			fails(t, "too many libraries", some().tag(verneedTag, at).tag(verneedsTag, many))
			fails(t, "too many libraries, none of its own", some().tag(verneedTag, at).tag(verneedsTag, many).tag(verdefTag, 0))
		}
	}
	for _, at := range []uint64{1, defsAt, spanEnd, 1 << 40, 1 << 63, huge} {
		check(t, "none of its own", some().tag(verdefTag, at).tag(verdefsTag, 0), api.OK, someSaid()[2:]...)
		check(t, "none asked for", some().tag(verneedTag, at).tag(verneedsTag, 0), api.OK, someSaid()[:2]...)
	}
}

// P11.1: a row ends with the last one, and with as many as are told.
func TestRowsEnd(t *testing.T) {
	all := someSaid()
	// More are told than there are.
	for _, many := range []uint64{3, 4, 32, 33} {
		check(t, "more are told", some().tag(verdefsTag, many), api.OK, all...)
	}
	for _, many := range []uint64{2, 3, 31, 32} {
		check(t, "more libraries are told", some().tag(verneedsTag, many), api.OK, all...)
	}
	for _, many := range []uint64{2, 3, 32, 33, 1 << 15, 1<<16 - 1} {
		x := some()
		check(t, "more asked ones are told", x.two(x.needs[0]+2, many), api.OK, all...)
	}
	// Fewer: what is behind isn't looked at, nor how far it is.
	wrong := func(x *lib, at uint64, size int) { copy(x.Image[at:], strings.Repeat("\xff", size)) }
	x := some()
	check(t, "fewer are told", x.tag(verdefsTag, 2), api.OK, slices.Concat(all[:1], all[2:])...)
	wrong(x, x.defs[2], 28)
	check(t, "fewer, and wrong behind", x, api.OK, slices.Concat(all[:1], all[2:])...)
	check(t, "fewer, and far behind", x.four(x.defs[1]+ownNext, 1<<32-1), api.OK, slices.Concat(all[:1], all[2:])...)
	fails(t, "one more", x.tag(verdefsTag, 3))
	x = some()
	check(t, "fewer libraries", x.tag(verneedsTag, 1), api.OK, all[:4]...)
	wrong(x, x.needs[1], 32)
	check(t, "fewer, and wrong behind", x, api.OK, all[:4]...)
	check(t, "fewer, and far behind", x.four(x.needs[0]+libNext, 1<<32-1), api.OK, all[:4]...)
	fails(t, "one more", x.tag(verneedsTag, 2))
	x = some()
	check(t, "fewer asked ones", x.two(x.needs[0]+2, 1), api.OK, slices.Concat(all[:3], all[4:])...)
	wrong(x, x.asks[1], 16)
	check(t, "fewer, and wrong behind", x, api.OK, slices.Concat(all[:3], all[4:])...)
	check(t, "fewer, and far behind", x.four(x.asks[0]+askNext, 1<<32-1), api.OK, slices.Concat(all[:3], all[4:])...)
	fails(t, "one more", x.two(x.needs[0]+2, 2))
	check(t, "none", x.two(x.needs[0]+2, 0), api.OK, slices.Concat(all[:2], all[4:])...)
	check(t, "none, far behind", x.four(x.needs[0]+libFirst, 1<<32-1), api.OK, slices.Concat(all[:2], all[4:])...)
	// 0: it is the last one.
	x = some()
	check(t, "the second is the last", x.four(x.defs[1]+ownNext, 0), api.OK, slices.Concat(all[:1], all[2:])...)
	check(t, "the first is the last", x.four(x.defs[0]+ownNext, 0), api.OK, all[2:]...)
	check(t, "the first library is the last", x.four(x.needs[0]+libNext, 0), api.OK, all[2:4]...)
	check(t, "the first asked one is the last", x.four(x.asks[0]+askNext, 0), api.OK, all[2:3]...)
}

// P11.1: at most 32 versions, the file itself not counted.
func TestLimit(t *testing.T) {
	file := []own{{1, 1, "file"}}
	check(t, "32 of its own", write(ownOnes(32, 2)), api.OK, said(32, 0)...)
	check(t, "32, and the file", write(append(file, ownOnes(32, 2)...)), api.OK, said(32, 0)...)
	check(t, "32, and the file last", write(append(ownOnes(32, 2), file...)), api.OK, said(32, 0)...)
	fails(t, "33", write(ownOnes(33, 2)))
	fails(t, "33, and the file", write(append(file, ownOnes(33, 2)...)))
	check(t, "33, of which 32 are told", write(ownOnes(33, 2)).tag(verdefsTag, 32), api.OK, said(32, 0)...)
	check(t, "the file 33 times", write(slices.Repeat(file, 33)), api.OK)
	for _, has := range []int{0, 1, 16, 31, 32} {
		check(t, "32 in all", write(ownOnes(has, 2), from{"a", askedOnes(32-has, 2+has)}), api.OK, said(has, 32-has)...)
		fails(t, "33 in all", write(ownOnes(has, 2), from{"a", askedOnes(33-has, 2+has)}))
		fails(t, "33 in all, of two", write(ownOnes(has, 2), from{"a", askedOnes(32-has, 2+has)}, from{"b", askedOnes(1, 34)}))
	}
	check(t, "32, and a library that is asked for nothing", write(ownOnes(32, 2), from{"a", nil}), api.OK, said(32, 0)...)
	var libs []from
	var want []vers.Version
	for i := range 32 {
		name := "l" + strconv.Itoa(i)
		libs = append(libs, from{name, []ask{{uint16(40 - i), "N"}}})
		want = append(want, vers.Version{Number: uint16(40 - i), Name: "N", From: name})
	}
	check(t, "32 libraries", write(nil, libs...), api.OK, want...)
	check(t, "32 libraries, the file itself", write(file, libs...), api.OK, want...)
	fails(t, "32 libraries, and one of its own", write([]own{{0, 2, "V"}}, libs...))
	fails(t, "33 libraries", write(nil, append(libs, from{"more", nil})...))
	check(t, "33 libraries, of which 32 are told", write(nil, append(libs, from{"more", []ask{{2, "M"}}})...).tag(verneedsTag, 32), api.OK, want...)
	check(t, "32 libraries that are asked for nothing", write(nil, slices.Repeat([]from{{"l", nil}}, 32)...), api.OK)
}

// P11.1: a record begins with 1, but that of a name, and of a version that is asked for.
func TestKind(t *testing.T) {
	for _, kind := range []uint64{0, 2, 3, 255, 256, 257, 1 << 15, 1<<15 + 1, 1<<16 - 1} {
		for i := range 3 {
			x := some()
			fails(t, "an own version", x.two(x.defs[i], kind))
		}
		for i := range 2 {
			x := some()
			fails(t, "a library", x.two(x.needs[i], kind))
		}
		for i := range 3 {
			x := some()
			check(t, "an asked version", x.two(x.asks[i], kind), api.OK, someSaid()...)
		}
	}
}

// P11.1: flags that have 1: the file itself, whose number isn't asked, and which is none; others aren't looked at.
func TestFlags(t *testing.T) {
	all := someSaid()
	for _, flags := range []uint64{0, 2, 4, 6, 254, 256, 1 << 15, 1<<16 - 2} {
		x := some()
		check(t, "other flags", x.two(x.defs[1]+2, flags), api.OK, all...)
		fails(t, "the first is no longer the file itself: its number is 1", x.two(x.defs[0]+2, flags))
		check(t, "it has a number", x.two(x.defs[0]+4, 9), api.OK, append([]vers.Version{{Number: 9, Name: "liba.so"}}, all...)...)
		for i := range 3 {
			check(t, "an asked version's", x.two(x.asks[i]+4, flags|uint64(i%2)), api.OK, append([]vers.Version{{Number: 9, Name: "liba.so"}}, all...)...)
		}
	}
	for _, flags := range []uint64{1, 3, 5, 255, 257, 1<<15 + 1, 1<<16 - 1} {
		x := some()
		check(t, "the file itself", x.two(x.defs[0]+2, flags), api.OK, all...)
		check(t, "the second, too", x.two(x.defs[1]+2, flags), api.OK, all[1:]...)
		for _, number := range []uint64{0, 1, 2, 3, 4, 7, 32767, 32768, 1<<16 - 1} {
			check(t, "any number", x.two(x.defs[0]+4, number), api.OK, all[1:]...)
		}
	}
}

// P11.1: how many names a version has: at least 1, of which the first is looked at.
func TestNames(t *testing.T) {
	for i := range 3 {
		x := some()
		fails(t, "no name", x.two(x.defs[i]+6, 0))
		for _, many := range []uint64{1, 2, 255, 256, 1 << 15, 1<<16 - 1} {
			check(t, "names", x.two(x.defs[i]+6, many), api.OK, someSaid()...)
		}
		for _, behind := range []uint64{0, 1, 8, 1 << 31, 1<<32 - 1} {
			check(t, "what is behind the text's place", x.four(x.names[i]+4, behind), api.OK, someSaid()...)
			check(t, "the name's sum", x.four(x.defs[i]+8, behind), api.OK, someSaid()...)
		}
		for _, sum := range []uint64{0, 1, 1 << 31, 1<<32 - 1} {
			check(t, "an asked one's sum", x.four(x.asks[i], sum), api.OK, someSaid()...)
		}
	}
}

// P11.1: numbers from 2 to 32767, none of them twice.
func TestNumbers(t *testing.T) {
	all := someSaid()
	for _, number := range []uint16{6, 8, 255, 256, 257, 1 << 14, 32766, 32767} {
		for i := range 2 {
			x := some()
			want := slices.Clone(all)
			want[i].Number = number
			check(t, "its own", x.two(x.defs[i+1]+4, uint64(number)), api.OK, want...)
		}
		for i := range 3 {
			x := some()
			want := slices.Clone(all)
			want[2+i].Number = number
			check(t, "asked for", x.two(x.asks[i]+6, uint64(number)), api.OK, want...)
		}
	}
	for _, number := range []uint64{0, 1, 32768, 32769, 32770, 32776, 1<<16 - 2, 1<<16 - 1} {
		for i := range 2 {
			x := some()
			fails(t, "its own", x.two(x.defs[i+1]+4, number))
		}
		for i := range 3 {
			x := some()
			fails(t, "asked for", x.two(x.asks[i]+6, number))
		}
	}
	// Each with the number of each other one.
	places := func(x *lib) []uint64 {
		return []uint64{x.defs[1] + 4, x.defs[2] + 4, x.asks[0] + 6, x.asks[1] + 6, x.asks[2] + 6}
	}
	for i := range all {
		for j, other := range all {
			x := some()
			if i != j {
				fails(t, "twice", x.two(places(x)[i], uint64(other.Number)))
			}
		}
	}
	check(t, "the least and the most", write([]own{{0, 2, "a"}}, from{"b", []ask{{32767, "c"}}}), api.OK, vers.Version{Number: 2, Name: "a"}, vers.Version{Number: 32767, Name: "c", From: "b"})
}

// textPlaces: where the places of the texts stand: of own versions, of libraries, of asked versions; the file itself ahead.
func textPlaces(x *lib) []uint64 {
	return []uint64{x.names[0], x.names[1], x.names[2], x.needs[0] + 4, x.needs[1] + 4, x.asks[0] + 8, x.asks[1] + 8, x.asks[2] + 8}
}

// renamed: what some says, with another text at a place.
func renamed(place int, name string) []vers.Version {
	l := someSaid()
	switch place {
	case 1, 2:
		l[place-1].Name = name
	case 3:
		l[2].From, l[3].From = name, name
	case 4:
		l[4].From = name
	case 5, 6, 7:
		l[place-3].Name = name
	}
	return l
}

// P11.1: texts: plain, not empty, with an end, among the strings; of the file itself and of libraries that are asked for nothing, too.
func TestTexts(t *testing.T) {
	for i := range textPlaces(some()) {
		for _, name := range []string{"a", "!", "~", "V1", "liba.so", "a@b", strings.Repeat("n", 63), strings.Repeat("n", 64)} {
			x := some()
			check(t, "a text", x.four(textPlaces(x)[i], x.text(name)), api.OK, renamed(i, name)...)
		}
		for _, name := range []string{"", " ", "a b", "a ", "\x01", "\x1f", "\x7f", "\x80", "\xff", "é", "a\n", strings.Repeat("n", 65), strings.Repeat("n", 200)} {
			x := some()
			fails(t, "no text", x.four(textPlaces(x)[i], x.text(name)))
		}
		size := some().Tags[10]
		for at, want := range map[uint64]string{
			0: "", 1: "liba.so", 2: "iba.so", 7: "o", 8: "", 9: "V1", size - 1: "", size - 2: "C", size: "", size + 1: "", thirdEnd - stringsAt: "",
			1 << 14: "", 1 << 16: "", 1<<16 + 1: "", 1 << 31: "", 1<<32 - 1: "", 1<<32 - 8: "", 1<<32 - stringsAt + defsAt: "",
		} {
			x := some()
			x.four(textPlaces(x)[i], at)
			if want == "" {
				fails(t, "no text there", x)
			} else {
				check(t, "a text there", x, api.OK, renamed(i, want)...)
			}
		}
		// The strings end ahead of the text's end.
		x := some()
		x.four(textPlaces(x)[i], x.text("last"))
		check(t, "its end is the last byte", x, api.OK, renamed(i, "last")...)
		x.Tags[10]--
		fails(t, "it has no end", x)
		x.Tags[10] -= 4
		fails(t, "it isn't there", x)
	}
	// A library that is asked for nothing has a name all the same.
	for _, at := range []uint64{0, 1 << 20} {
		x := write(nil, from{"a", nil})
		fails(t, "no name", x.four(x.needs[0]+4, at))
	}
	// Text may stand at 0, if the strings don't begin with an end.
	x := some()
	x.Image[stringsAt] = 'X'
	check(t, "a text at 0", x.four(x.names[1], 0), api.OK, renamed(1, "Xliba.so")...)
}

// P11.1: strings that aren't all in one part: that is asked ahead of all, versions or none.
func TestStrings(t *testing.T) {
	for _, x := range []*lib{some(), empty(), some().tag(verdefsTag, 0).tag(verneedsTag, 0)} {
		b := x.File()
		h, d := layers(t, b)
		size := d.Strings.Size
		for _, area := range []api.Area{
			{Has: true, At: thirdEnd - size + 1, Size: size}, {Has: true, At: secondAt - 1, Size: 2}, {Has: true, At: secondEnd - 1, Size: 2}, {Has: true, At: stringsAt, Size: thirdEnd - stringsAt + 1},
			{Has: true, At: stringsAt, Size: huge}, {Has: true, At: huge, Size: 2}, {Has: true, At: huge - 1, Size: 2}, {Has: true, At: spanEnd}, {Has: true, At: 1 << 40, Size: 1},
		} {
			d.Strings = area
			if l, e := vers.List(b, h, d); e != api.ErrVersion || len(l) != 0 {
				t.Errorf("strings at %+v: %v, %v", area, l, e)
			}
			for _, versym := range []uint64{0, versymAt} {
				d.Versym = versym
				if l, e := vers.Put(b, h, d, []api.Sym{{}, {Name: "f"}}); e != api.ErrVersion || len(l) != 0 {
					t.Errorf("strings at %+v: %v, %v", area, l, e)
				}
			}
		}
	}
	// Strings of no bytes will do, if no text is asked for.
	check(t, "no strings", empty().tag(10, 0), api.OK)
	check(t, "strings at their part's end", empty().tag(5, thirdEnd).tag(10, 0), api.OK)
	fails(t, "no strings", write([]own{{0, 2, "V"}}).tag(10, 0))
	fails(t, "no strings", write([]own{{1, 1, "file"}}).tag(10, 0))
}

// laid: a library of one version of its own and one that it asks for, the records at these places.
func laid(def, name, need, ask uint64) *lib {
	x := empty().tag(verdefTag, def).tag(verdefsTag, 1).tag(verneedTag, need).tag(verneedsTag, 1)
	x.own(def, own{0, 2, "V2"}, name, 0)
	x.lib(need, from{"a", askedOnes(1, 3)}, ask, 0)
	x.ask(ask, askedOnes(1, 3)[0], 0)
	return x
}

// P11.1: each record lies in one part's bytes of the file: places at a part's ends, in two parts, in none.
func TestPlaces(t *testing.T) {
	const def, name, need, ask = 700, 9500, 740, 9600 // as they lie, unless they are moved
	for _, move := range []struct {
		what  string
		size  uint64
		leads bool // to another one behind it
		laid  func(at uint64) *lib
	}{
		{"an own version", 20, true, func(at uint64) *lib { return laid(at, name, need, ask) }},
		{"its name", 8, false, func(at uint64) *lib { return laid(def, at, need, ask) }},
		{"a library", 16, true, func(at uint64) *lib { return laid(def, name, at, ask) }},
		{"an asked version", 16, false, func(at uint64) *lib { return laid(def, name, need, at) }},
	} {
		for _, at := range []uint64{secondAt - move.size, secondAt, secondAt + 1, secondEnd - move.size, thirdAt, thirdAt + 1} {
			check(t, move.what+" in a part", move.laid(at), api.OK, said(1, 1)...)
		}
		if !move.leads {
			check(t, move.what+" at the end", move.laid(thirdEnd-move.size), api.OK, said(1, 1)...)
			for more := uint64(1); more < 300; more++ {
				fails(t, move.what+" behind the end", move.laid(thirdEnd-move.size+more))
			}
		}
		for more := uint64(1); more < move.size; more++ {
			fails(t, move.what+" in two parts", move.laid(secondAt-move.size+more))
		}
		for at := secondEnd - move.size + 1; at < thirdAt; at++ {
			fails(t, move.what+" in no part's bytes of the file", move.laid(at))
		}
	}
	// The last records of all.
	check(t, "at the end", laid(def, name, thirdEnd-32, thirdEnd-16), api.OK, said(1, 1)...)
	check(t, "at the end", laid(thirdEnd-28, thirdEnd-8, need, ask), api.OK, said(1, 1)...)
}

// P11.1: rows that begin where nothing is, as far as a number may be.
func TestFarRows(t *testing.T) {
	places := []uint64{1, thirdEnd - 19, thirdEnd - 15, thirdEnd, spanEnd, 64 * 256, 1 << 20, 1 << 32, 1<<32 + defsAt, 1<<32 + needsAt, 1 << 40, 1 << 63, 1<<63 + defsAt, 1<<63 + needsAt}
	for n := range uint64(40) {
		places = append(places, huge-n)
	}
	for _, at := range places {
		fails(t, "Verdef", some().tag(verdefTag, at))
		fails(t, "Verneed", some().tag(verneedTag, at))
		fails(t, "Verdef alone", some().tag(verdefTag, at).tag(verneedTag, 0))
		fails(t, "Verneed alone", some().tag(verneedTag, at).tag(verdefTag, 0))
	}
}

// P11.1: records that are led to from others: by 0, to themselves, backwards, so far that sums would wrap.
func TestLeads(t *testing.T) {
	all := someSaid()
	// Backwards, if numbers of four bytes went round; far away.
	for _, behind := range []uint64{1 << 32 / 2, 1<<32 - 1, 1<<32 - 20, 1<<32 - 28, 1<<32 - 56, 1<<32 - 16, 1<<32 - defsAt, 1<<32 - needsAt, 1 << 16, 1 << 20} {
		for i := range 2 {
			x := some()
			fails(t, "the next one", x.four(x.defs[i]+ownNext, behind))
		}
		for i := range 3 {
			x := some()
			fails(t, "its name", x.four(x.defs[i]+ownFirst, behind))
		}
		x := some()
		fails(t, "the next library", x.four(x.needs[0]+libNext, behind))
		for i := range 2 {
			x := some()
			fails(t, "the first asked one", x.four(x.needs[i]+libFirst, behind))
		}
		x = some()
		fails(t, "the next asked one", x.four(x.asks[0]+askNext, behind))
		// The last one that is told may lead anywhere, though it isn't the last one.
		x = some()
		check(t, "of the last one", x.four(x.defs[2]+ownNext, behind).four(x.needs[1]+libNext, behind).four(x.asks[1]+askNext, behind).four(x.asks[2]+askNext, behind), api.OK, all...)
	}
	// A record that is its own name's: its first four bytes are the text's place, here 1.
	x := some()
	check(t, "its own name", x.four(x.defs[2]+ownFirst, 0).two(x.defs[2]+2, 0), api.OK, renamed(2, "liba.so")...)
	// The name's record is within its own, or another one's.
	x = some()
	x.four(x.defs[1]+8, 9)
	check(t, "a name within", x.four(x.defs[1]+ownFirst, 8), api.OK, renamed(1, "V1")...)
	x = some()
	check(t, "another one's name", x.four(x.defs[1]+ownFirst, x.names[2]-x.defs[1]), api.OK, renamed(1, "V2")...)
	// A library that is its own first version: its number is 0.
	x = some()
	fails(t, "its own version", x.four(x.needs[1]+libFirst, 0))
	x = some()
	x.Image[stringsAt] = 'X'
	fails(t, "its own version, with a name", x.four(x.needs[1]+libFirst, 0))
	// One version's record for both libraries.
	x = some()
	fails(t, "another one's version", x.four(x.needs[0]+libFirst, x.asks[2]-x.needs[0]))
	check(t, "the first library begins at its second", x.four(x.needs[0]+libFirst, 32), api.OK, slices.Concat(all[:2], all[3:])...)
	// Records may leave out others, and lie in one another: here the second library begins at the first one's name, and has its name where the first one says how far its versions are.
	x = some()
	check(t, "the second is left out", x.four(x.defs[0]+ownNext, 56), api.OK, all[1:]...)
	x = write(nil, from{"a", nil}).tag(verneedsTag, 2).four(needsAt+libFirst, 1).four(needsAt+libNext, 4)
	check(t, "one within another", x, api.OK)
	fails(t, "one within another, without a name", x.four(needsAt+libFirst, 0))
}

// P11.1: own versions may begin where asked ones do, or the other way round: what stands there is asked.
func TestOneForAnother(t *testing.T) {
	fails(t, "asked ones at its own", some().tag(verneedTag, defsAt))
	fails(t, "its own at asked ones", some().tag(verdefTag, needsAt))
	// A row may begin anywhere in another one.
	x := some()
	check(t, "from the second one on", x.tag(verdefTag, x.defs[1]), api.OK, someSaid()...)
	check(t, "from the third one on", x.tag(verdefTag, x.defs[2]), api.OK, someSaid()[1:]...)
	check(t, "from the second library on", x.tag(verneedTag, x.needs[1]), api.OK, slices.Concat(someSaid()[1:2], someSaid()[4:])...)
}

// rule 6: of headers that layer 8 doesn't answer, too, no sum goes round unseen.
func TestRound(t *testing.T) {
	x := laid(700, 900, 740, 960)
	b := x.File()
	h, d := layers(t, b)
	check(t, "as it is", x, api.OK, said(1, 1)...)
	// The same part once more at the memory's end: from there on sums go round to the places at its beginning.
	h.Loads = append(h.Loads, api.Phdr{Type: 1, Vaddr: huge - 1023, Filesz: 1024, Memsz: 1024})
	for _, place := range []*uint64{&d.Verdef, &d.Verneed} {
		*place += huge - 1023
		if l, e := vers.List(b, h, d); e != api.OK || !slices.Equal(l, said(1, 1)) {
			t.Errorf("at the end: %v, %v", l, e)
		}
		*place -= huge - 1023
	}
	// The record at 700 leads to 900 by 200: at the end to 900 by 1224.
	x.four(700+ownFirst, 1224).four(740+libFirst, 1244)
	b = x.File()
	for _, place := range []*uint64{&d.Verdef, &d.Verneed} {
		was := d
		*place += huge - 1023
		if place == &d.Verdef {
			d.Verneed = 0
		} else {
			d.Verdef = 0
		}
		if l, e := vers.List(b, h, d); e != api.ErrVersion || len(l) != 0 {
			t.Errorf("round: %v, %v", l, e)
		}
		d = was
	}
}

// few: symbols of each kind: Defined ones and others, of each binding.
func few() []api.Sym {
	return []api.Sym{
		{},
		{Name: "g", Bind: 1, Defined: true, Value: 640, Size: 8},
		{Name: "w", Bind: 2, Defined: true, Value: 641, Size: 9},
		{Name: "l", Bind: 0, Defined: true, Value: 642},
		{Name: "asked", Bind: 1, Size: 7},
		{Name: "weakly", Bind: 2},
	}
}

// P11.2: what each number makes of each kind of symbol.
func TestPut(t *testing.T) {
	for i, s := range few() {
		if i == 0 {
			continue
		}
		for number := range 11 {
			for _, high := range []uint16{0, 1 << 15} {
				want, wantErr := s, api.OK
				want.Hidden = high != 0 && s.Defined && number != 0
				switch {
				case number == 0 && s.Defined:
					want.Bind = api.Local
				case number == 0, number == 1:
				case s.Defined && number == 2:
					want.Ver = "V1"
				case s.Defined && number == 3:
					want.Ver = "V2"
				case !s.Defined && number == 4:
					want.Ver = "B1"
				case !s.Defined && number == 5:
					want.Ver = "B2"
				case !s.Defined && number == 7:
					want.Ver = "C"
				default:
					wantErr = api.ErrVersion
				}
				l := few()
				numbers := []uint16{9, 1, 1, 1, 1, 1}
				numbers[i] = uint16(number) | high
				if wantErr != api.OK {
					checkPut(t, "a version that isn't there", some().numbers(numbers...), l, wantErr)
					continue
				}
				wanted := few()
				wanted[i] = want
				checkPut(t, "number "+strconv.Itoa(int(numbers[i])), some().numbers(numbers...), l, api.OK, wanted...)
			}
		}
		for _, number := range []uint16{6, 8, 255, 256, 258, 259, 260, 1 << 14, 32767, 1<<15 + 8, 1<<16 - 1} {
			numbers := []uint16{1, 1, 1, 1, 1, 1}
			numbers[i] = number
			checkPut(t, "no such version", some().numbers(numbers...), few(), api.ErrVersion)
		}
	}
	// All at once.
	l := few()
	want := few()
	want[1].Ver, want[1].Hidden = "V2", true
	want[2].Ver = "V1"
	want[3].Hidden = true
	want[4].Ver = "C"
	want[5].Ver = "B1"
	checkPut(t, "all", some().numbers(0, 1<<15+3, 2, 1<<15+1, 7, 1<<15+4), l, api.OK, want...)
	// The greatest number.
	x := write([]own{{0, 32767, "last"}}, from{"a", []ask{{32766, "one"}}})
	want = []api.Sym{{}, {Name: "f", Ver: "last", Hidden: true, Bind: 1, Defined: true}, {Name: "f", Ver: "last", Bind: 1, Defined: true}, {Name: "f", Ver: "one", Bind: 1}}
	checkPut(t, "the greatest", x.numbers(0, 1<<16-1, 32767, 32766), []api.Sym{{}, {Name: "f", Bind: 1, Defined: true}, {Name: "f", Bind: 1, Defined: true}, {Name: "f", Bind: 1}}, api.OK, want...)
	checkPut(t, "asked for as its own", x.numbers(0, 32766), []api.Sym{{}, {Name: "f", Bind: 1, Defined: true}}, api.ErrVersion)
	checkPut(t, "its own as asked for", x.numbers(0, 32767), []api.Sym{{}, {Name: "f", Bind: 1}}, api.ErrVersion)
}

// P11.2: the file itself isn't a version that a symbol may have.
func TestFileItself(t *testing.T) {
	x := write([]own{{1, 6, "file"}, {0, 2, "V"}})
	l := []api.Sym{{}, {Name: "f", Bind: 1, Defined: true}}
	checkPut(t, "of the file", x.numbers(0, 6), l, api.ErrVersion)
	checkPut(t, "of a version", x.numbers(0, 2), l, api.OK, api.Sym{}, api.Sym{Name: "f", Ver: "V", Bind: 1, Defined: true})
	// A version has its number, too: that is meant.
	x = write([]own{{1, 6, "file"}, {0, 6, "V"}})
	checkPut(t, "both", x.numbers(0, 6), l, api.OK, api.Sym{}, api.Sym{Name: "f", Ver: "V", Bind: 1, Defined: true})
}

// P11.2: the first symbol is left alone, whatever its number and whatever it is.
func TestFirstSymbol(t *testing.T) {
	for _, first := range []api.Sym{{}, {Name: "x", Ver: "y", Bind: 1, Defined: true}, {Name: "x", Ver: "y", Hidden: true, Bind: 2, Value: 7}} {
		for _, number := range []uint16{0, 1, 2, 4, 9, 1 << 15, 1<<15 + 1, 1<<15 + 2, 1<<15 + 9, 1<<16 - 1} {
			checkPut(t, "alone", some().numbers(number), []api.Sym{first}, api.OK, first)
			checkPut(t, "the first", some().numbers(number, 1), []api.Sym{first, {Name: "f"}}, api.OK, first, api.Sym{Name: "f"})
		}
	}
}

// P11.2: symbols that have a version already, or are hidden: just what the number says is another than it was.
func TestPutAnew(t *testing.T) {
	for _, s := range []api.Sym{
		{Name: "f", Ver: "old", Hidden: true, Bind: 1, Defined: true, Value: 7, Size: 1},
		{Name: "f", Ver: "old", Bind: 9, Defined: true, Value: huge, Size: huge},
		{Name: "f", Ver: "old", Hidden: true, Bind: -1},
		{Name: "", Ver: "old", Bind: 0},
		{Name: strings.Repeat("\xff", 300), Ver: " ", Bind: 2, Defined: true},
	} {
		named, number := "V1", uint16(2)
		if !s.Defined {
			named, number = "B1", 4
		}
		none, local, version := s, s, s
		none.Ver, version.Ver = "", named
		if s.Defined {
			local.Bind = api.Local
		}
		put := func(number uint16, want api.Sym) {
			t.Helper()
			checkPut(t, "anew", some().numbers(0, number), []api.Sym{{}, s}, api.OK, api.Sym{}, want)
		}
		put(0, local)
		put(1<<15, local)
		put(1, none)
		put(number, version)
		none.Hidden, version.Hidden = none.Hidden || s.Defined, version.Hidden || s.Defined
		put(1<<15+1, none)
		put(1<<15+number, version)
		// Without numbers they are as they were.
		checkPut(t, "Versym 0", some().tag(versymTag, 0), []api.Sym{s, s}, api.OK, s, s)
	}
}

// P11.2: Versym 0: the symbols as they are; but an error of List's is answered all the same.
func TestNoNumbers(t *testing.T) {
	for _, x := range []*lib{some().tag(versymTag, 0), empty(), empty().tag(versymTag, 0)} {
		checkPut(t, "some", x, few(), api.OK, few()...)
		checkPut(t, "none", x, nil, api.OK)
		checkPut(t, "none", x, []api.Sym{}, api.OK)
		checkPut(t, "more than a library may have", x, slices.Repeat(few(), 100), api.OK, slices.Repeat(few(), 100)...)
	}
	for _, x := range []*lib{some().tag(verdefsTag, 34), some().tag(verneedTag, spanEnd), some().two(defsAt, 2), some().two(needsAt, 0)} {
		checkPut(t, "numbers, and an error", x, few(), api.ErrVersion)
		checkPut(t, "an error", x.tag(versymTag, 0), few(), api.ErrVersion)
		checkPut(t, "an error, and no symbols", x, nil, api.ErrVersion)
	}
	// Numbers, and no versions: those that say so may be.
	checkPut(t, "0 and 1", empty().tag(versymTag, versymAt).numbers(0, 1, 1<<15+1, 0, 0, 1<<15), few(), api.OK,
		api.Sym{}, few()[1], api.Sym{Name: "w", Hidden: true, Bind: 2, Defined: true, Value: 641, Size: 9}, few()[3], few()[4], few()[5])
	checkPut(t, "2", empty().tag(versymTag, versymAt).numbers(0, 2), few()[:2], api.ErrVersion)
}

// P11.2: the numbers are all in one part's bytes of the file.
func TestNumbersPlace(t *testing.T) {
	at := func(place uint64) *lib {
		x := some().tag(versymTag, place)
		if place > 700 && place < spanEnd-12 {
			x.Put(place, 2, 9, 1, 1, 1, 1, 1)
		}
		return x
	}
	const size = 12
	for _, place := range []uint64{secondAt - size, secondEnd - size, secondEnd - size - 1, thirdEnd - size, thirdEnd - size - 1, 800, 801} {
		checkPut(t, "in a part", at(place), few(), api.OK, few()...)
	}
	for more := uint64(1); more <= size+20; more++ {
		if more < size {
			checkPut(t, "in two parts", at(secondAt-size+more), few(), api.ErrVersion)
		}
		checkPut(t, "behind a part's bytes of the file", at(secondEnd-size+more), few(), api.ErrVersion)
		checkPut(t, "behind the last part's", at(thirdEnd-size+more), few(), api.ErrVersion)
		checkPut(t, "so far that a sum would wrap", at(huge-more+1), few(), api.ErrVersion)
	}
	for _, place := range []uint64{spanEnd, 64 * 256, 1 << 20, 1 << 32, 1<<32 + versymAt, 1 << 40, 1 << 63, 1<<63 + versymAt} {
		checkPut(t, "nowhere", at(place), few(), api.ErrVersion)
		checkPut(t, "nowhere, one symbol", at(place), few()[:1], api.ErrVersion)
		checkPut(t, "nowhere, no symbols", at(place), nil, api.ErrVersion)
	}
	// As many as there are symbols, the first with them.
	for many := range 7 {
		x := some().tag(versymTag, thirdEnd-2*uint64(many))
		x.Put(thirdEnd-2*uint64(many), 2, slices.Repeat([]uint64{1}, many)...)
		checkPut(t, "just as many", x, few()[:min(many, 6)], api.OK, few()[:min(many, 6)]...)
		if many < 6 {
			checkPut(t, "one too few", x, few()[:many+1], api.ErrVersion)
		}
	}
	// Far more symbols than there may be numbers.
	checkPut(t, "too many", some(), make([]api.Sym, 1<<20), api.ErrVersion)
	all := make([]api.Sym, (thirdEnd-thirdAt)/2)
	x := empty().tag(versymTag, thirdAt)
	checkPut(t, "all of a part", x, all, api.OK, all...)
	checkPut(t, "one more", x, append(all, api.Sym{}), api.ErrVersion)
}

// P11.2: the last one of several symbols whose version isn't there is an error, as the first is.
func TestEachIsAsked(t *testing.T) {
	for many := 2; many < 300; many += 37 {
		l := make([]api.Sym, many)
		numbers := make([]uint16, many)
		for i := range l {
			l[i] = api.Sym{Name: "n" + strconv.Itoa(i), Bind: 1, Defined: true}
			numbers[i] = 2
		}
		want := slices.Clone(l)
		for i := range want[1:] {
			want[i+1].Ver = "V1"
		}
		checkPut(t, "all right", some().numbers(numbers...), l, api.OK, want...)
		for _, i := range []int{1, many / 2, many - 1} {
			was := numbers[i]
			numbers[i] = 9
			if i > 0 {
				checkPut(t, "one isn't", some().numbers(numbers...), l, api.ErrVersion)
			}
			numbers[i] = was
		}
	}
}

// P11.2: of what layer 10 answers, and what layer 10 finds then.
func TestWithSyms(t *testing.T) {
	x := some().numbers(0, 2, 1<<15+3, 0, 1, 4, 1)
	x.symbols([]sym{{"f", 0x10, 1, 8}, {"f", 0x20, 1, 9}, {"own", 0x10, 1, 10}, {"plain", 0x10, 1, 11}, {"b", 0x10, 0, 0}, {"c", 0x20, 0, 0}})
	b := x.File()
	h, d := layers(t, b)
	l, e := syms.Parse(b, h, d)
	if e != api.OK {
		t.Fatal(e)
	}
	m, e := vers.Put(b, h, d, l)
	want := []api.Sym{
		{},
		{Name: "f", Ver: "V1", Bind: 1, Defined: true, Value: 8},
		{Name: "f", Ver: "V2", Hidden: true, Bind: 2, Defined: true, Value: 9},
		{Name: "own", Bind: 0, Defined: true, Value: 10},
		{Name: "plain", Bind: 1, Defined: true, Value: 11},
		{Name: "b", Ver: "B1", Bind: 1},
		{Name: "c", Bind: 2},
	}
	if e != api.OK || !slices.Equal(m, want) {
		t.Fatalf("%+v, %v", m, e)
	}
	for _, ask := range []struct {
		name, ver string
		want      int
	}{{"f", "", 1}, {"f", "V1", 1}, {"f", "V2", 2}, {"f", "B1", -1}, {"own", "", -1}, {"plain", "", 4}, {"plain", "V1", -1}, {"b", "B1", -1}} {
		if n := syms.Find(m, true, ask.name, ask.ver); n != ask.want {
			t.Errorf("%v: %d", ask, n)
		}
	}
}

// sym is a symbol's record as tests write it down.
type sym struct {
	name  string
	info  byte
	where uint16
	value uint64
}

// symbols: lays down symbols behind the empty one, and an older table of sums with one row, in which each leads to the next one.
func (x *lib) symbols(l []sym) {
	x.Put(hashAt, 4, 1, uint64(len(l)+1), 1, 0)
	for i, s := range l {
		at := recordsAt + 24*uint64(i+1)
		x.Put(at, 4, x.text(s.name))
		x.Put(at+4, 1, uint64(s.info), 0)
		x.Put(at+6, 2, uint64(s.where))
		x.Put(at+8, 8, s.value, 0)
		x.Put(hashAt+12+4*uint64(i+1), 4, next(uint64(i+2), i, len(l)))
	}
}

// P11.1, P11.2, rules 3 and 5: what is handed in isn't changed, nothing behind its length is read, and what is answered is new memory.
func TestMemory(t *testing.T) {
	x := some().numbers(9, 1<<15+2, 3, 0, 4, 7)
	whole := x.File()
	b := slices.Clone(whole)
	h, d := layers(t, b)
	loads := slices.Clone(h.Loads)
	l := few()
	first, e := vers.List(b, h, d)
	put, e2 := vers.Put(b, h, d, l)
	if e != api.OK || e2 != api.OK || !slices.Equal(b, whole) || !slices.Equal(h.Loads, loads) || !slices.Equal(l, few()) {
		t.Fatal("what was handed in is another one", e, e2)
	}
	wasPut := slices.Clone(put)
	again, _ := vers.List(b, h, d)
	clear(again[:cap(again)])
	clear(l)
	clear(b)
	if !slices.Equal(first, someSaid()) || !slices.Equal(put, wasPut) {
		t.Error("answers share memory with what was handed in, or with each other")
	}
	// Versym 0: the answer is new memory, too.
	d.Versym = 0
	l = few()
	put, _ = vers.Put(whole, h, d, l)
	clear(put[:cap(put)])
	if !slices.Equal(l, few()) {
		t.Error("the symbols are those that were handed in")
	}
	l = append(few(), api.Sym{Name: "behind"})
	put, _ = vers.Put(whole, h, d, l[:2])
	if len(put) != 2 || slices.ContainsFunc(put[:cap(put)], func(s api.Sym) bool { return s.Name != "" && s.Name != "g" }) {
		t.Error("what is behind the symbols is handed out", put[:cap(put)])
	}
	// A file whose last bytes are behind its length: the parts say more than there is.
	h, d = layers(t, whole)
	for n := range len(whole) {
		want, wantErr := vers.List(slices.Clip(slices.Clone(whole[:n])), h, d)
		if got, e := vers.List(whole[:n], h, d); e != wantErr || !slices.Equal(got, want) {
			t.Fatalf("%d bytes: %v, %v, not %v, %v", n, got, e, want, wantErr)
		}
		wantPut, wantErr := vers.Put(slices.Clip(slices.Clone(whole[:n])), h, d, few())
		if got, e := vers.Put(whole[:n], h, d, few()); e != wantErr || !slices.Equal(got, wantPut) {
			t.Fatalf("%d bytes: %v, %v, not %v, %v", n, got, e, wantPut, wantErr)
		}
	}
}
