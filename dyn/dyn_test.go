package dyn_test

import (
	"bytes"
	"encoding/binary"
	"math"
	"reflect"
	"slices"
	"strings"
	"testing"

	"messuage/api"
	"messuage/dyn"
	"messuage/head"
)

const (
	huge = math.MaxUint64

	// Where things lie in the memory of the tests' libraries. Their parts stand in another order in the file.
	firstEnd = 512
	dynAt    = 528
	secondAt = 512
	thirdAt  = 4096
	textsAt  = 4112 // the strings, in the third part
)

// texts: the strings of the tests' libraries.
var texts = "\x00liba.so\x00libb.so\x00/lib:/x\x00two words\x00" + strings.Repeat("n", 65) + "\x00\x80\x00\x7f\x00c.so\x00open"

// at: where a text begins among these.
func at(s string) uint64 {
	i := strings.Index(texts, s)
	if i < 0 {
		panic(s)
	}
	return uint64(i)
}

// entry: one of a section.
func entry(tag, value uint64) dyn.Entry { return dyn.Entry{Tag: tag, Value: value} }

// bare: the bytes of entries, none of them an end.
func bare(l ...dyn.Entry) []byte {
	var b []byte
	for _, x := range l {
		b = binary.LittleEndian.AppendUint64(b, x.Tag)
		b = binary.LittleEndian.AppendUint64(b, x.Value)
	}
	return b
}

// ended: the bytes of entries, and an end.
func ended(l ...dyn.Entry) []byte { return append(bare(l...), make([]byte, 16)...) }

// file: a library of three parts: its headers; its dynamic section; its strings, with memory behind those of the file.
func file(section []byte, strings string) []byte {
	heads := []api.Phdr{
		{Type: 1, Flags: 4, Off: 0, Vaddr: 0, Filesz: firstEnd, Memsz: firstEnd},
		{Type: 1, Flags: 6, Off: 1024, Vaddr: secondAt, Filesz: 16 + uint64(len(section)), Memsz: 16 + uint64(len(section))},
		{Type: 1, Flags: 4, Off: 512, Vaddr: thirdAt, Filesz: 16 + uint64(len(strings)), Memsz: 1000},
		{Type: 2, Off: 7, Vaddr: dynAt, Filesz: uint64(len(section))},
	}
	b := make([]byte, 1024)
	copy(b, "\x7fELF\x02\x01\x01")
	for at, n := range map[int]uint16{16: 3, 18: 62, 32: 64, 52: 64, 54: 56, 56: uint16(len(heads))} {
		binary.LittleEndian.PutUint16(b[at:], n)
	}
	for i, p := range heads {
		row := b[64+56*i:]
		binary.LittleEndian.PutUint32(row, p.Type)
		binary.LittleEndian.PutUint32(row[4:], p.Flags)
		for at, n := range map[int]uint64{8: p.Off, 16: p.Vaddr, 32: p.Filesz, 40: p.Memsz} {
			binary.LittleEndian.PutUint64(row[at:], n)
		}
	}
	copy(b[512+16:1024], strings)
	b = append(b, bytes.Repeat([]byte{0xee}, 16)...)
	b = append(b, section...)
	return append(b, bytes.Repeat([]byte{0xee}, 16)...)
}

// heads: what layer 8 answers for a file.
func heads(t *testing.T, b []byte) api.Heads {
	t.Helper()
	h, e := head.Parse(b)
	if e != api.OK {
		t.Fatal(e)
	}
	return h
}

// least: the entries of a library that says no more than it must.
func least() []dyn.Entry {
	return []dyn.Entry{entry(5, textsAt), entry(10, uint64(len(texts))), entry(6, 600), entry(4, 700)}
}

// full: the entries of a library that says all that may be.
func full() []dyn.Entry {
	return []dyn.Entry{
		entry(1, at("libb.so")), entry(14, at("liba.so")), entry(1, at("c.so")), entry(29, at("/lib:/x")),
		entry(5, textsAt), entry(10, uint64(len(texts))), entry(6, 600), entry(11, 24), entry(4, 700), entry(0x6ffffef5, 701),
		entry(7, 702), entry(8, 703), entry(9, 24), entry(17, 704), entry(18, 705), entry(19, 16),
		entry(23, 706), entry(2, 707), entry(20, 7), entry(36, 708), entry(35, 709), entry(37, 8),
		entry(0x60000011, 710), entry(0x60000012, 711), entry(25, 712), entry(27, 713), entry(26, 714), entry(28, 715),
		entry(16, 0), entry(30, 2), entry(0x6ffffffb, 10), entry(0x6ffffff0, 716),
		entry(0x6ffffffc, 717), entry(0x6ffffffd, 718), entry(0x6ffffffe, 719), entry(0x6fffffff, 720), entry(1, at("liba.so")),
	}
}

// leastSays, fullSays: what these say.
func leastSays() api.Dyn {
	return api.Dyn{Strings: api.Area{Has: true, At: textsAt, Size: uint64(len(texts))}, Symtab: 600, Hash: 700}
}

func fullSays() api.Dyn {
	return api.Dyn{
		Soname: "liba.so", Runpath: "/lib:/x", Needed: []string{"libb.so", "c.so", "liba.so"},
		Symbolic: true, Global: true, Nodelete: true,
		Strings: api.Area{Has: true, At: textsAt, Size: uint64(len(texts))},
		Symtab:  600, Hash: 700, GnuHash: 701, Versym: 716,
		Verdef: 717, Verneed: 719, Verdefs: 718, Verneeds: 720,
		Rel:     api.Area{Has: true, At: 704, Size: 705},
		Rela:    api.Area{Has: true, At: 702, Size: 703},
		Plt:     api.Area{Has: true, At: 706, Size: 707},
		Relr:    api.Area{Has: true, At: 708, Size: 709},
		Packed:  api.Area{Has: true, At: 710, Size: 711},
		PltRela: true, PackedRela: true,
		Init: api.Area{Has: true, At: 712, Size: 713},
		Fini: api.Area{Has: true, At: 714, Size: 715},
	}
}

// without: entries but those of some tags.
func without(l []dyn.Entry, tags ...uint64) []dyn.Entry {
	return slices.DeleteFunc(slices.Clone(l), func(x dyn.Entry) bool { return slices.Contains(tags, x.Tag) })
}

// with: entries, the value of a tag another one.
func with(l []dyn.Entry, tag, value uint64) []dyn.Entry {
	l = slices.Clone(l)
	for i := range l {
		if l[i].Tag == tag {
			l[i].Value = value
		}
	}
	return l
}

// same: do they say the same? An empty list is no other than nil.
func same(a, b api.Dyn) bool {
	needed := slices.Equal(a.Needed, b.Needed)
	a.Needed, b.Needed = nil, nil
	return needed && reflect.DeepEqual(a, b)
}

// checkBytes: what a library with such a section and such strings says.
func checkBytes(t *testing.T, what string, section []byte, strings string, want api.Dyn, wantErr api.Errno) {
	t.Helper()
	b := file(section, strings)
	if d, e := dyn.Parse(b, heads(t, b)); e != wantErr || !same(d, want) {
		t.Errorf("Parse, %s:\n%+v, %v, not\n%+v, %v", what, d, e, want, wantErr)
	}
}

// checkSays: what a library with these entries says.
func checkSays(t *testing.T, what string, want api.Dyn, l ...dyn.Entry) {
	t.Helper()
	checkBytes(t, what, ended(l...), texts, want, api.OK)
}

// checkErr: what is wrong with a library with these entries.
func checkErr(t *testing.T, what string, want api.Errno, l ...dyn.Entry) {
	t.Helper()
	checkBytes(t, what, ended(l...), texts, api.Dyn{}, want)
}

// checkTurned: the least library and another entry says what the least one does, turned.
func checkTurned(t *testing.T, what string, turn func(d *api.Dyn), l ...dyn.Entry) {
	t.Helper()
	want := leastSays()
	turn(&want)
	checkSays(t, what, want, append(least(), l...)...)
	checkSays(t, what, want, append(l, least()...)...)
}

func checkEntries(t *testing.T, what string, b []byte, wantErr api.Errno, want ...dyn.Entry) {
	t.Helper()
	if l, e := dyn.Entries(b); !slices.Equal(l, want) || e != wantErr {
		t.Errorf("Entries, %s: %v, %v, not %v, %v", what, l, e, want, wantErr)
	}
}

// P9.1: the chapter's examples.
func TestExamples(t *testing.T) {
	checkEntries(t, "16 bytes 0", make([]byte, 16), api.OK)
	checkEntries(t, "no bytes", nil, api.ErrTags)
	checkEntries(t, "no bytes", []byte{}, api.ErrTags)
}

// P9.1: the entries ahead of the end, whatever they say, and whatever is behind it.
func TestEntries(t *testing.T) {
	l := []dyn.Entry{entry(1, 0), entry(huge, huge), entry(0x0807060504030201, 0x100f0e0d0c0b0a09), entry(1, 0), entry(1<<63, 1), entry(256, 0), entry(1<<32, 0)}
	for n := range len(l) + 1 {
		checkEntries(t, "ended", ended(l[:n]...), api.OK, l[:n]...)
		checkEntries(t, "not ended", bare(l[:n]...), api.ErrTags)
		behind := append(ended(l[:n]...), bare(l...)...)
		for cut := 16 * (n + 1); cut <= len(behind); cut++ {
			checkEntries(t, "bytes behind", behind[:cut], api.OK, l[:n]...)
		}
		checkEntries(t, "two ends", append(ended(l[:n]...), ended(l...)...), api.OK, l[:n]...)
		// What the end's value is isn't asked.
		checkEntries(t, "an end with a value", bare(append(slices.Clone(l[:n]), entry(0, huge))...), api.OK, l[:n]...)
	}
}

// P9.1: bytes that end within an entry, that of the end, too.
func TestEntriesCut(t *testing.T) {
	b := ended(entry(5, 6), entry(7, 0))
	for n := range len(b) {
		checkEntries(t, "cut", b[:n], api.ErrTags)
	}
	checkEntries(t, "whole", b, api.OK, entry(5, 6), entry(7, 0))
}

// P9.1: an end that is the last of the first 128 entries, and one behind it.
func TestEntriesMany(t *testing.T) {
	var l []dyn.Entry
	for n := range uint64(132) {
		switch {
		case n < 128:
			checkEntries(t, "ended", ended(l...), api.OK, l...)
			checkEntries(t, "ended, bytes behind", append(ended(l...), bare(l...)...), api.OK, l...)
		default:
			checkEntries(t, "too many", ended(l...), api.ErrTags)
		}
		checkEntries(t, "not ended", bare(l...), api.ErrTags)
		l = append(l, entry(1000+n, n))
	}
}

// P9.2: a library that says no more than it must, and one that says all.
func TestParse(t *testing.T) {
	checkSays(t, "least", leastSays(), least()...)
	checkSays(t, "full", fullSays(), full()...)
	back := full()
	slices.Reverse(back)
	want := fullSays()
	slices.Reverse(want.Needed)
	checkSays(t, "full, the other way round", want, back...)
}

// P9.2: Entries' error, and what is behind the end.
func TestParseEntries(t *testing.T) {
	none := api.Dyn{}
	checkBytes(t, "no end", bare(least()...), texts, none, api.ErrTags)
	for cut := 1; cut <= 16; cut++ {
		b := ended(least()...)
		checkBytes(t, "half an end", b[:len(b)-cut], texts, none, api.ErrTags)
	}
	checkBytes(t, "an end at once", ended(), texts, none, api.ErrTags)
	checkBytes(t, "an end ahead of all", append(ended(), ended(least()...)...), texts, none, api.ErrTags)
	checkBytes(t, "the same behind", append(ended(least()...), ended(least()...)...), texts, leastSays(), api.OK)
	checkBytes(t, "wrong ones behind", append(ended(least()...), bare(entry(20, 1), entry(7, 1), entry(1, huge))...), texts, leastSays(), api.OK)
	checkBytes(t, "not a whole one behind", append(ended(least()...), 1, 2, 3), texts, leastSays(), api.OK)
	for n := 100; n < 140; n++ {
		l := least()
		for len(l) < n {
			l = append(l, entry(1000, 5))
		}
		if n < 128 {
			checkSays(t, "many", leastSays(), l...)
		} else {
			checkErr(t, "too many", api.ErrTags, l...)
		}
	}
}

// P9.2: each tag but 1 is there but once, with the same value or another one.
func TestTwice(t *testing.T) {
	for _, x := range without(full(), 1) {
		for _, value := range []uint64{x.Value, x.Value + 1, 0, huge} {
			more := entry(x.Tag, value)
			checkErr(t, "twice", api.ErrTags, append(full(), more)...)
			checkErr(t, "twice", api.ErrTags, append([]dyn.Entry{more}, full()...)...)
			checkErr(t, "thrice", api.ErrTags, append(full(), more, more)...)
		}
	}
	packed := append(without(full(), 0x60000011, 0x60000012), entry(0x6000000f, 1), entry(0x60000010, 2))
	for _, tag := range []uint64{0x6000000f, 0x60000010} {
		checkErr(t, "twice", api.ErrTags, append(packed, entry(tag, 1))...)
	}
	// What has no value is twice there as well.
	checkErr(t, "symbolic", api.ErrTags, append(least(), entry(16, 0), entry(16, 0))...)
	checkErr(t, "flags", api.ErrTags, append(least(), entry(30, 0), entry(30, 0))...)
}

// P9.2: other tags say nothing, however often they come.
func TestOtherTags(t *testing.T) {
	looked := []uint64{0x6000000f, 0x60000010}
	for _, x := range full() {
		looked = append(looked, x.Tag)
	}
	others := []uint64{huge, 1 << 63, 1<<32 + 1, 1<<32 + 5, 0x6ffffef6, 0x6ffffef4, 0x6fffffef, 0x6ffffff1, 0x6ffffff9, 0x6ffffffa, 0x6000000e, 0x60000013, 0x6fffe000, 0x6fffe001, 0x6fffe003, 0x70000000}
	for tag := uint64(2); tag < 300; tag++ {
		others = append(others, tag)
	}
	for _, tag := range others {
		if slices.Contains(looked, tag) {
			continue
		}
		for _, value := range []uint64{0, 2, 7, 8, textsAt, huge} {
			x := entry(tag, value)
			checkSays(t, "others", leastSays(), append(append([]dyn.Entry{x, x}, least()...), x)...)
		}
		checkSays(t, "others", fullSays(), append(full(), entry(tag, 9), entry(tag, huge))...)
	}
}

// P9.2: of two tags of a pair none is there alone.
func TestAlone(t *testing.T) {
	for _, p := range [][2]uint64{{17, 18}, {7, 8}, {36, 35}, {0x6000000f, 0x60000010}, {0x60000011, 0x60000012}, {25, 27}, {26, 28}, {0x6ffffffc, 0x6ffffffd}, {0x6ffffffe, 0x6fffffff}} {
		for _, value := range []uint64{0, 1, 8, 24, 600, huge} {
			checkErr(t, "the first alone", api.ErrTags, append(least(), entry(p[0], value))...)
			checkErr(t, "the second alone", api.ErrTags, append(least(), entry(p[1], value))...)
		}
		b := file(ended(append(least(), entry(p[0], 0), entry(p[1], 0))...), texts)
		if _, e := dyn.Parse(b, heads(t, b)); e != api.OK {
			t.Errorf("%x, both: %v", p, e)
		}
		for _, tag := range p {
			if slices.ContainsFunc(full(), func(x dyn.Entry) bool { return x.Tag == tag }) {
				checkErr(t, "one of all is gone", api.ErrTags, without(full(), tag)...)
			}
		}
	}
	checkErr(t, "two halves", api.ErrTags, append(least(), entry(7, 1), entry(18, 1))...)
	checkErr(t, "two halves", api.ErrTags, append(least(), entry(25, 1), entry(28, 1))...)
	checkErr(t, "two halves", api.ErrTags, append(least(), entry(0x6000000f, 1), entry(0x60000012, 1))...)
}

// P9.2: what must be there: the strings, the symbols, a table of sums.
func TestMust(t *testing.T) {
	for _, l := range [][]dyn.Entry{least(), full()} {
		checkErr(t, "where the strings are is gone", api.ErrTags, without(l, 5)...)
		checkErr(t, "how many they have is gone", api.ErrTags, without(l, 10)...)
		checkErr(t, "the strings are gone", api.ErrTags, without(l, 5, 10)...)
		checkErr(t, "the symbols are gone", api.ErrTags, without(l, 6)...)
		checkErr(t, "the sums are gone", api.ErrTags, without(l, 4, 0x6ffffef5)...)
	}
	checkErr(t, "a symbol's size alone", api.ErrTags, append(without(least(), 6), entry(11, 24))...)
	want := leastSays()
	want.Hash, want.GnuHash = 0, 99
	checkSays(t, "the newer sums alone", want, append(without(least(), 4), entry(0x6ffffef5, 99))...)
	// A value 0 is there, too.
	want = leastSays()
	want.Symtab, want.Hash = 0, 0
	checkSays(t, "at 0", want, with(with(least(), 6, 0), 4, 0)...)
	checkSays(t, "the newer ones at 0", want, append(with(without(least(), 4), 6, 0), entry(0x6ffffef5, 0))...)
}

// P9.2: relocations in groups, of one kind or the other, not of both.
func TestPacked(t *testing.T) {
	without, with := []dyn.Entry{entry(0x6000000f, 90), entry(0x60000010, 91)}, []dyn.Entry{entry(0x60000011, 92), entry(0x60000012, 93)}
	checkTurned(t, "without what is added", func(d *api.Dyn) { d.Packed = api.Area{Has: true, At: 90, Size: 91} }, without...)
	checkTurned(t, "with", func(d *api.Dyn) { d.Packed, d.PackedRela = api.Area{Has: true, At: 92, Size: 93}, true }, with...)
	checkErr(t, "both", api.ErrTags, slices.Concat(least(), without, with)...)
	checkErr(t, "both", api.ErrTags, slices.Concat(with, without, least())...)
	checkErr(t, "both, the same", api.ErrTags, append(least(), entry(0x6000000f, 0), entry(0x60000010, 0), entry(0x60000011, 0), entry(0x60000012, 0))...)
}

// P9.2: the tags 23, 2 and 20 are there together, and 20 is 7 or 17.
func TestPlt(t *testing.T) {
	place, size := entry(23, 90), entry(2, 91)
	area := api.Area{Has: true, At: 90, Size: 91}
	checkTurned(t, "with what is added", func(d *api.Dyn) { d.Plt, d.PltRela = area, true }, place, size, entry(20, 7))
	checkTurned(t, "without", func(d *api.Dyn) { d.Plt = area }, place, size, entry(20, 17))
	all := []dyn.Entry{place, size, entry(20, 7)}
	for set := 1; set < 7; set++ {
		var l []dyn.Entry
		for i, x := range all {
			if set>>i%2 == 1 {
				l = append(l, x)
			}
		}
		checkErr(t, "not all three", api.ErrTags, append(least(), l...)...)
	}
	checkErr(t, "17, without", api.ErrTags, append(least(), entry(20, 17))...)
	for kind := range uint64(300) {
		if kind != 7 && kind != 17 {
			checkErr(t, "another kind", api.ErrTags, append(least(), place, size, entry(20, kind))...)
		}
	}
	for _, kind := range []uint64{1<<32 + 7, 1<<63 + 17, huge, 256 + 7} {
		checkErr(t, "another kind", api.ErrTags, append(least(), place, size, entry(20, kind))...)
	}
}

// P9.2: how many bytes a symbol has, a relocation of each kind, a row of bits: just so many, if it is told.
func TestSizes(t *testing.T) {
	for tag, right := range map[uint64]uint64{11: 24, 9: 24, 19: 16, 37: 8} {
		checkSays(t, "right, alone", leastSays(), append(least(), entry(tag, right))...)
		checkSays(t, "not told", fullSays(), without(full(), tag)...)
		others := []uint64{huge, 1 << 32, 1<<32 + right, 1<<63 + right}
		for n := range uint64(100) {
			others = append(others, n)
		}
		for _, n := range others {
			if n != right {
				checkErr(t, "another size, alone", api.ErrTags, append(least(), entry(tag, n))...)
				checkErr(t, "another size", api.ErrTags, with(full(), tag, n)...)
			}
		}
	}
}

// P9.2: symbolic, Global, Nodelete.
func TestFlags(t *testing.T) {
	for _, value := range []uint64{0, 1, 2, huge} {
		checkTurned(t, "symbolic", func(d *api.Dyn) { d.Symbolic = true }, entry(16, value))
	}
	values := []uint64{huge, huge - 2, huge - 8, huge - 10, 1 << 63, 1<<63 + 2, 1<<32 + 8, 1 << 33}
	for n := range uint64(64) {
		values = append(values, n)
	}
	for _, n := range values {
		two, eight := n/2%2 == 1, n/8%2 == 1
		checkTurned(t, "30", func(d *api.Dyn) { d.Symbolic = two }, entry(30, n))
		checkTurned(t, "16 and 30", func(d *api.Dyn) { d.Symbolic = true }, entry(16, 0), entry(30, n))
		checkTurned(t, "0x6ffffffb", func(d *api.Dyn) { d.Global, d.Nodelete = two, eight }, entry(0x6ffffffb, n))
	}
}

// P9.2: areas and values are told as they are: none, in no part, so great that a sum would wrap, no multiple of what they count.
func TestValues(t *testing.T) {
	areas := []struct {
		at, size uint64
		area     func(d *api.Dyn) *api.Area
	}{
		{17, 18, func(d *api.Dyn) *api.Area { return &d.Rel }},
		{7, 8, func(d *api.Dyn) *api.Area { return &d.Rela }},
		{36, 35, func(d *api.Dyn) *api.Area { return &d.Relr }},
		{0x6000000f, 0x60000010, func(d *api.Dyn) *api.Area { return &d.Packed }},
		{25, 27, func(d *api.Dyn) *api.Area { return &d.Init }},
		{26, 28, func(d *api.Dyn) *api.Area { return &d.Fini }},
	}
	numbers := []uint64{0, 1, 7, 8, 23, 25, 511, 512, 1 << 20, 1 << 40, 1 << 63, huge - 7, huge}
	for _, x := range areas {
		for _, at := range numbers {
			for _, size := range numbers {
				checkTurned(t, "an area", func(d *api.Dyn) { *x.area(d) = api.Area{Has: true, At: at, Size: size} }, entry(x.at, at), entry(x.size, size))
				checkTurned(t, "an area", func(d *api.Dyn) { *x.area(d) = api.Area{Has: true, At: at, Size: size} }, entry(x.size, size), entry(x.at, at))
			}
		}
	}
	for _, n := range numbers {
		checkTurned(t, "versym", func(d *api.Dyn) { d.Versym = n }, entry(0x6ffffff0, n))
		checkTurned(t, "the newer sums", func(d *api.Dyn) { d.GnuHash = n }, entry(0x6ffffef5, n))
		for _, many := range numbers {
			checkTurned(t, "verdef", func(d *api.Dyn) { d.Verdef, d.Verdefs = n, many }, entry(0x6ffffffc, n), entry(0x6ffffffd, many))
			checkTurned(t, "verneed", func(d *api.Dyn) { d.Verneed, d.Verneeds = n, many }, entry(0x6ffffffe, n), entry(0x6fffffff, many))
			checkTurned(t, "plt", func(d *api.Dyn) { d.Plt = api.Area{Has: true, At: n, Size: many} }, entry(23, n), entry(2, many), entry(20, 17))
			want := leastSays()
			want.Symtab, want.Hash = n, many
			checkSays(t, "symbols and sums", want, with(with(least(), 6, n), 4, many)...)
		}
	}
}

// P9.2, P9.3: the strings' bytes are all in one part of the file.
func TestStringsPlace(t *testing.T) {
	b := file(ended(least()...), texts)
	h := heads(t, b)
	size := uint64(len(texts))
	check := func(what string, at, size uint64, want string, ok bool) {
		t.Helper()
		area := api.Area{Has: true, At: at, Size: size}
		if got, is := dyn.Strings(b, h, api.Dyn{Strings: area}); string(got) != want || is != ok {
			t.Errorf("Strings, %s: %q, %v, not %q, %v", what, got, is, want, ok)
		}
		l := with(with(least(), 5, at), 10, size)
		if !ok {
			checkErr(t, what, api.ErrStrtab, l...)
			return
		}
		says := leastSays()
		says.Strings = area
		checkSays(t, what, says, l...)
	}
	check("all", textsAt, size, texts, true)
	check("a byte fewer", textsAt, size-1, texts[:size-1], true)
	check("a byte more", textsAt, size+1, "", false)
	check("a byte further on", textsAt+1, size, "", false)
	check("from the second one on", textsAt+1, size-1, texts[1:], true)
	check("the last one", textsAt+size-1, 1, texts[size-1:], true)
	check("from the part's beginning on", thirdAt, 16+size, strings.Repeat("\x00", 16)+texts, true)
	check("from ahead of it on", thirdAt-1, 4, "", false)
	check("in its memory alone", textsAt+size, 1, "", false)
	check("in its memory alone", 4500, 8, "", false)
	check("at its memory's end", 5096, 1, "", false)
	check("in the first part", 0, 4, "\x7fELF", true)
	check("in the first part, to its end", firstEnd-1, 1, "\x00", true)
	check("over two parts", firstEnd-1, 2, "", false)
	check("between parts", 2048, 1, "", false)
	check("behind all", 1<<40, 1, "", false)
	check("none", textsAt, 0, "", true)
	check("none, at a part's end", textsAt+size, 0, "", true)
	check("none, in memory alone", textsAt+size+1, 0, "", false)
	check("none, in no part", 2048, 0, "", false)
	check("none, at the end", huge, 0, "", false)
	for _, at := range []uint64{0, 1, thirdAt, textsAt} {
		for _, size := range []uint64{1 << 32, 1 << 63, huge, huge - at, huge - at + 1, huge - at + 2, -at + 8} {
			if size > 1<<20 {
				check("so great that a sum wraps", at, size, "", false)
			}
		}
	}
	for _, size := range []uint64{1, 2, 8, 16, thirdAt, textsAt} {
		check("so far that a sum wraps", huge, size, "", false)
		check("so far that a sum wraps", huge-7, size, "", false)
	}
}

// P9.3: of no headers there are no strings.
func TestStringsOfNone(t *testing.T) {
	d := leastSays()
	if got, ok := dyn.Strings(nil, api.Heads{}, d); ok || len(got) != 0 {
		t.Error(got, ok)
	}
	b := file(ended(least()...), texts)
	if got, ok := dyn.Strings(b, api.Heads{}, d); ok || len(got) != 0 {
		t.Error(got, ok)
	}
	if got, ok := dyn.Strings(nil, heads(t, b), d); ok || len(got) != 0 {
		t.Error(got, ok)
	}
}

// P9.2: the library's name, its search paths: texts among the strings, and no further.
func TestNames(t *testing.T) {
	size := uint64(len(texts))
	for tag, name := range map[uint64]func(d *api.Dyn) *string{
		14: func(d *api.Dyn) *string { return &d.Soname },
		29: func(d *api.Dyn) *string { return &d.Runpath },
	} {
		for _, s := range []string{"liba.so", "a.so", "so", "/lib:/x", "words", "c.so", strings.Repeat("n", 64), "n\x00"} {
			place := at(s)
			if s == strings.Repeat("n", 64) {
				place++
			}
			text, _, _ := strings.Cut(texts[place:], "\x00")
			checkTurned(t, "a text", func(d *api.Dyn) { *name(d) = text }, entry(tag, place))
		}
		checkTurned(t, "empty", func(*api.Dyn) {}, entry(tag, 0))
		checkTurned(t, "empty", func(*api.Dyn) {}, entry(tag, at("\x00libb")))
		for _, s := range []string{"two words", " words", "\x80", "\x7f", strings.Repeat("n", 65), "open", "pen", "n"} {
			place := at(s)
			if s == "n" {
				place = size - 1
			}
			checkErr(t, "no text", api.ErrStrtab, append(least(), entry(tag, place))...)
		}
		for _, place := range []uint64{size, size + 1, textsAt, 1 << 32, 1<<32 + 1, 1 << 63, huge, huge - textsAt + 1, -size} {
			checkErr(t, "behind them", api.ErrStrtab, append(least(), entry(tag, place))...)
			checkErr(t, "behind them", api.ErrStrtab, with(full(), tag, place)...)
		}
		// The text's end stands behind the strings, in the same part.
		l := with(append(least(), entry(tag, at("liba.so"))), 10, at("liba.so")+7)
		checkErr(t, "the end behind", api.ErrStrtab, l...)
		l = with(l, 10, at("liba.so")+8)
		b := file(ended(l...), texts)
		if d, e := dyn.Parse(b, heads(t, b)); e != api.OK || *name(&d) != "liba.so" {
			t.Errorf("the end is the last byte: %v, %v", d, e)
		}
		checkErr(t, "of no strings", api.ErrStrtab, append(with(least(), 10, 0), entry(tag, 0))...)
		checkBytes(t, "of one byte", ended(append(with(least(), 10, 1), entry(tag, 0))...), "\x00", func() api.Dyn {
			d := leastSays()
			d.Strings.Size = 1
			return d
		}(), api.OK)
	}
}

// P9.2: none needed, one, sixteen, and more; in order, the same ones again.
func TestNeeded(t *testing.T) {
	var l []dyn.Entry
	var names []string
	for n := range 20 {
		if n <= 16 {
			checkTurned(t, "needed", func(d *api.Dyn) { d.Needed = names }, l...)
		} else {
			checkErr(t, "too many", api.ErrNeeded, append(least(), l...)...)
		}
		s := []string{"libb.so", "c.so", "libb.so", "liba.so", "/lib:/x"}[n%5]
		l, names = append(l, entry(1, at(s))), append(names, s)
	}
	for _, name := range []string{"two words", "\x80", strings.Repeat("n", 65), "open"} {
		checkErr(t, "no text", api.ErrStrtab, append(least(), entry(1, at(name)))...)
		checkErr(t, "the second no text", api.ErrStrtab, append(least(), entry(1, at("c.so")), entry(1, at(name)))...)
	}
	for _, place := range []uint64{uint64(len(texts)), 1 << 32, huge} {
		checkErr(t, "behind them", api.ErrStrtab, append(least(), entry(1, place))...)
	}
	checkErr(t, "empty", api.ErrNeeded, append(least(), entry(1, 0))...)
	checkErr(t, "empty", api.ErrNeeded, append(least(), entry(1, at("\x00libb")))...)
	checkErr(t, "the second one empty", api.ErrNeeded, append(least(), entry(1, at("c.so")), entry(1, 0))...)
	checkErr(t, "the sixteenth empty", api.ErrNeeded, append(append(least(), l[:15]...), entry(1, 0))...)
	checkErr(t, "the sixteenth no text", api.ErrStrtab, append(append(least(), l[:15]...), entry(1, huge))...)
}

// P9.2: of those that are needed the first that is wrong tells the error, unless there are too many.
func TestNeededFirstError(t *testing.T) {
	fine, none, wrong := entry(1, at("c.so")), entry(1, 0), entry(1, huge)
	checkErr(t, "empty first", api.ErrNeeded, append(least(), fine, none, wrong)...)
	checkErr(t, "no text first", api.ErrStrtab, append(least(), fine, wrong, none)...)
	many := slices.Repeat([]dyn.Entry{fine}, 16)
	checkErr(t, "too many, the first no text", api.ErrNeeded, slices.Concat(least(), []dyn.Entry{wrong}, many)...)
	checkErr(t, "too many, the last no text", api.ErrNeeded, slices.Concat(least(), many, []dyn.Entry{wrong})...)
	checkErr(t, "too many, no name", api.ErrStrtab, slices.Concat(least(), many, []dyn.Entry{fine, entry(14, huge)})...)
	checkErr(t, "too many, no search paths", api.ErrStrtab, slices.Concat(least(), many, []dyn.Entry{fine, entry(29, huge)})...)
	checkErr(t, "empty, no name", api.ErrStrtab, append(least(), none, entry(14, huge))...)
	checkErr(t, "empty, no search paths", api.ErrStrtab, append(least(), none, entry(29, huge))...)
}

// P9.2: where several errors apply, the one that is named first.
func TestFirstError(t *testing.T) {
	// The tags' errors ahead of the strings', and these ahead of those of what is needed.
	none := entry(1, 0)
	far := with(append(least(), none), 5, huge)
	checkErr(t, "the strings", api.ErrStrtab, far...)
	checkErr(t, "no end", api.ErrTags, append(far, slices.Repeat([]dyn.Entry{entry(99, 0)}, 128)...)...)
	checkErr(t, "twice", api.ErrTags, append(far, entry(6, 600))...)
	checkErr(t, "alone", api.ErrTags, append(far, entry(7, 1))...)
	checkErr(t, "another size", api.ErrTags, append(far, entry(11, 23))...)
	checkErr(t, "no symbols", api.ErrTags, without(far, 6)...)
	checkErr(t, "no sums", api.ErrTags, without(far, 4)...)
	checkErr(t, "too many", api.ErrStrtab, append(far, slices.Repeat([]dyn.Entry{none}, 17)...)...)
	checkErr(t, "too many, twice", api.ErrTags, append(least(), append(slices.Repeat([]dyn.Entry{none}, 17), entry(4, 1))...)...)
	checkErr(t, "no name, a wrong kind", api.ErrTags, append(least(), entry(14, huge), entry(23, 1), entry(2, 1), entry(20, 8))...)
	// A dynamic section that isn't in the file is told ahead of all: layer 8 answers no such headers.
	b := file(ended(far...), texts)
	h := heads(t, b)
	for _, p := range []api.Phdr{{}, {Vaddr: 2048, Filesz: 16}, {Vaddr: dynAt, Filesz: 1000}, {Vaddr: huge, Filesz: 2}} {
		h.Dynamic = p
		if d, e := dyn.Parse(b, h); p != (api.Phdr{}) && e != api.ErrDynamic || e == api.OK || !same(d, api.Dyn{}) {
			t.Errorf("%v: %v, %v", p, d, e)
		}
	}
	if d, e := dyn.Parse(nil, heads(t, b)); e != api.ErrDynamic || !same(d, api.Dyn{}) {
		t.Errorf("no bytes: %v, %v", d, e)
	}
	if d, e := dyn.Parse(b, api.Heads{}); e != api.ErrDynamic || !same(d, api.Dyn{}) {
		t.Errorf("no headers: %v, %v", d, e)
	}
}

// P9.2: where the section stands is told by its Vaddr, not by its Off.
func TestSectionPlace(t *testing.T) {
	b := file(ended(least()...), texts)
	h := heads(t, b)
	for _, off := range []uint64{0, 16, 1040, huge} {
		h.Dynamic.Off = off
		if d, e := dyn.Parse(b, h); e != api.OK || !same(d, leastSays()) {
			t.Errorf("Off %d: %v, %v", off, d, e)
		}
	}
}

// What is answered is new memory, what is handed in isn't changed, and what lies behind its length isn't read.
func TestMemory(t *testing.T) {
	b := file(ended(full()...), texts)
	before := slices.Clone(b)
	h := heads(t, b)
	was := heads(t, b)
	d, _ := dyn.Parse(b, h)
	got, _ := dyn.Strings(b, h, d)
	l, _ := dyn.Entries(b[1040:])
	if !bytes.Equal(b, before) || !reflect.DeepEqual(h, was) {
		t.Error("what was handed in has changed")
	}
	clear(b)
	clear(h.Loads)
	if !same(d, fullSays()) || string(got) != texts || !slices.Equal(l, full()) {
		t.Error("what was answered has changed with it")
	}
	for i := range got {
		got[i]++
	}
	if !bytes.Equal(b, make([]byte, len(b))) {
		t.Error("what was handed in has changed with the strings")
	}
	end := 1040 + 16*len(full())
	if _, e := dyn.Entries(before[1040:end]); e != api.ErrTags {
		t.Error("an end behind the length:", e)
	}
	if _, ok := dyn.Strings(before[:528+len(texts)-1], was, d); ok {
		t.Error("strings behind the length")
	}
	again, _ := dyn.Strings(before, was, d)
	if _ = append(again, 1); string(before[528:528+len(texts)]) != texts || before[528+len(texts)] != 0 {
		t.Error("what stands behind the strings is handed out")
	}
}
