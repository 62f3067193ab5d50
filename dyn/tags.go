package dyn

import (
	"slices"

	"messuage/api"
	"messuage/le"
)

// The tags that are looked at. By a thing's name alone: where it begins; with Size: how many bytes it has; with One: how many each of its records has.
const (
	tagEnd = 0

	tagNeeded  = 1
	tagName    = 14
	tagRunpath = 29

	tagStrings     = 5
	tagStringsSize = 10
	tagSymtab      = 6
	tagSymtabOne   = 11
	tagHash        = 4
	tagGnuHash     = 0x6ffffef5

	tagRela     = 7
	tagRelaSize = 8
	tagRelaOne  = 9
	tagRel      = 17
	tagRelSize  = 18
	tagRelOne   = 19
	tagPlt      = 23
	tagPltSize  = 2
	tagPltKind  = 20
	tagRelr     = 36
	tagRelrSize = 35
	tagRelrOne  = 37

	tagPacked         = 0x6000000f
	tagPackedSize     = 0x60000010
	tagPackedRela     = 0x60000011
	tagPackedRelaSize = 0x60000012

	tagInit     = 25
	tagInitSize = 27
	tagFini     = 26
	tagFiniSize = 28

	tagSymbolic = 16
	tagFlags    = 30
	tagFlags1   = 0x6ffffffb

	tagVersym   = 0x6ffffff0
	tagVerdef   = 0x6ffffffc
	tagVerdefs  = 0x6ffffffd
	tagVerneed  = 0x6ffffffe
	tagVerneeds = 0x6fffffff
)

const (
	flagSymbolic  = 2 // of tagFlags
	flagGlobal    = 2 // of tagFlags1
	flagNodelete  = 8
	symbolSize    = 24
	relaEntrySize = 24
	relEntrySize  = 16
	relrEntrySize = 8
)

// pairs: the tags of which none is there without the other.
var pairs = [...][2]uint64{
	{tagStrings, tagStringsSize},
	{tagRel, tagRelSize},
	{tagRela, tagRelaSize},
	{tagPlt, tagPltSize},
	{tagPlt, tagPltKind},
	{tagRelr, tagRelrSize},
	{tagPacked, tagPackedSize},
	{tagPackedRela, tagPackedRelaSize},
	{tagInit, tagInitSize},
	{tagFini, tagFiniSize},
	{tagVerdef, tagVerdefs},
	{tagVerneed, tagVerneeds},
}

// known: is a tag looked at?
func known(tag uint64) bool {
	switch tag {
	case tagNeeded, tagName, tagRunpath,
		tagStrings, tagStringsSize, tagSymtab, tagSymtabOne, tagHash, tagGnuHash,
		tagRela, tagRelaSize, tagRelaOne, tagRel, tagRelSize, tagRelOne,
		tagPlt, tagPltSize, tagPltKind, tagRelr, tagRelrSize, tagRelrOne,
		tagPacked, tagPackedSize, tagPackedRela, tagPackedRelaSize,
		tagInit, tagInitSize, tagFini, tagFiniSize,
		tagSymbolic, tagFlags, tagFlags1,
		tagVersym, tagVerdef, tagVerdefs, tagVerneed, tagVerneeds:
		return true
	}
	return false
}

// tags is what the entries of a section say by the tags that are looked at: how often each is there, its value, and, of the one that may come more than once, all values in order.
type tags struct {
	often  map[uint64]int
	value  map[uint64]uint64
	needed []uint64
}

// gather: the entries by their tags.
func gather(entries []Entry) tags {
	t := tags{often: map[uint64]int{}, value: map[uint64]uint64{}}
	for _, x := range entries {
		if !known(x.Tag) {
			continue
		}
		t.often[x.Tag]++
		t.value[x.Tag] = x.Value
		if x.Tag == tagNeeded {
			t.needed = append(t.needed, x.Value)
		}
	}
	return t
}

// twice: is a tag there more than once that may not be?
func (t tags) twice() bool {
	for tag, many := range t.often {
		if many > 1 && tag != tagNeeded {
			return true
		}
	}
	return false
}

// has: is a tag there?
func (t tags) has(tag uint64) bool { return t.often[tag] != 0 }

// together: are the tags there that must be, and none without, or beside, another one?
func (t tags) together() bool {
	for _, p := range pairs {
		if t.has(p[0]) != t.has(p[1]) {
			return false
		}
	}
	if !t.has(tagStrings) || !t.has(tagSymtab) || !t.has(tagHash) && !t.has(tagGnuHash) {
		return false
	}
	return !t.has(tagPacked) || !t.has(tagPackedRela)
}

// valued: have the tags whose values are given just these?
func (t tags) valued() bool {
	return t.only(tagPltKind, tagRela, tagRel) &&
		t.only(tagSymtabOne, symbolSize) &&
		t.only(tagRelaOne, relaEntrySize) &&
		t.only(tagRelOne, relEntrySize) &&
		t.only(tagRelrOne, relrEntrySize)
}

// only: has a tag, if it is there, one of some values?
func (t tags) only(tag uint64, values ...uint64) bool {
	return !t.has(tag) || slices.Contains(values, t.value[tag])
}

// area: where a thing begins, and how many bytes it has; a tag that isn't there has the value 0.
func (t tags) area(at, size uint64) api.Area {
	return api.Area{Has: t.has(at), At: t.value[at], Size: t.value[size]}
}

// numbers: all that the tags say by themselves, without the strings.
func (t tags) numbers() api.Dyn {
	d := api.Dyn{
		Symbolic: t.has(tagSymbolic) || t.value[tagFlags]&flagSymbolic != 0,
		Global:   t.value[tagFlags1]&flagGlobal != 0,
		Nodelete: t.value[tagFlags1]&flagNodelete != 0,
		Strings:  t.area(tagStrings, tagStringsSize),
		Symtab:   t.value[tagSymtab],
		Hash:     t.value[tagHash],
		GnuHash:  t.value[tagGnuHash],
		Versym:   t.value[tagVersym],
		Verdef:   t.value[tagVerdef],
		Verdefs:  t.value[tagVerdefs],
		Verneed:  t.value[tagVerneed],
		Verneeds: t.value[tagVerneeds],
		Rel:      t.area(tagRel, tagRelSize),
		Rela:     t.area(tagRela, tagRelaSize),
		Plt:      t.area(tagPlt, tagPltSize),
		PltRela:  t.value[tagPltKind] == tagRela,
		Relr:     t.area(tagRelr, tagRelrSize),
		Packed:   t.area(tagPacked, tagPackedSize),
		Init:     t.area(tagInit, tagInitSize),
		Fini:     t.area(tagFini, tagFiniSize),
	}
	if t.has(tagPackedRela) {
		d.Packed, d.PackedRela = t.area(tagPackedRela, tagPackedRelaSize), true
	}
	return d
}

// name: the names that the tags tell the places of, put into what they say.
func (t tags) name(strings []byte, d *api.Dyn) api.Errno {
	var e api.Errno
	if d.Soname, e = t.text(strings, tagName); e != api.OK {
		return e
	}
	if d.Runpath, e = t.text(strings, tagRunpath); e != api.OK {
		return e
	}
	d.Needed, e = neededOnes(strings, t.needed)
	return e
}

// text: the text whose place a tag tells; empty, if the tag isn't there.
func (t tags) text(strings []byte, tag uint64) (string, api.Errno) {
	if !t.has(tag) {
		return "", api.OK
	}
	return textAt(strings, t.value[tag])
}

// textAt: the text at a place among the strings.
func textAt(strings []byte, at uint64) (string, api.Errno) {
	s, e := le.Text(strings, at)
	if e != api.OK {
		return "", api.ErrStrtab
	}
	return s, api.OK
}

// neededOnes: the names of the libraries that are needed, in order.
func neededOnes(strings []byte, places []uint64) ([]string, api.Errno) {
	if len(places) > api.MaxNeeded {
		return nil, api.ErrNeeded
	}
	var l []string
	for _, at := range places {
		s, e := textAt(strings, at)
		if e != api.OK {
			return nil, e
		}
		if s == "" {
			return nil, api.ErrNeeded
		}
		l = append(l, s)
	}
	return l, api.OK
}
