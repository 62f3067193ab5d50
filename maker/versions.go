package maker

import (
	"messuage/api"
	"messuage/le"
	"messuage/syms"
)

const (
	noVersion    = 1
	firstVersion = 2
	hiddenBit    = 1 << 15

	recordKind = 1 // of the one form of records that there is

	ownSize   = 20 // of a version of the library's own; its name's record comes behind it
	nameSize  = 8
	libSize   = 16 // of a library that is asked; the versions that it is asked for come behind it
	askedSize = 16
)

// version is a version of symbols: the library's own, or one that it asks for; and its number.
type version struct {
	name   string
	own    bool
	number uint16
}

// versionOf: a symbol's one among some; false: it has none, or it isn't among them.
func versionOf(l []version, s api.Sym) (version, bool) {
	return find(l, func(v version) bool { return v.name == s.Ver && v.own == s.Defined })
}

// versionsOf: those of symbols, each once, in the order in which they come first.
func versionsOf(l []api.Sym) []version {
	var found []version
	for _, s := range l {
		if _, ok := versionOf(found, s); !ok && s.Ver != "" {
			found = append(found, version{s.Ver, s.Defined, firstVersion + uint16(len(found))})
		}
	}
	return found
}

// putVersions: the versions, and the number of each symbol's one.
func (x *draft) putVersions() {
	all := versionsOf(x.spec.Syms)
	if own := ofSide(all, true); len(own) > 0 {
		x.piece(tagVerdef, x.ownVersions(own))
		x.say(tagVerdefs, uint64(len(own)))
	}
	if asked := ofSide(all, false); len(asked) > 0 {
		x.piece(tagVerneed, x.askedVersions(asked))
		x.say(tagVerneeds, 1)
	}
	// A hidden symbol is told by its number, too, even if there are no versions.
	if _, ok := find(x.spec.Syms, func(s api.Sym) bool { return s.Ver != "" || s.Hidden }); ok {
		x.piece(tagVersym, numbers(x.spec.Syms, all))
	}
}

// ofSide: those of some versions that are the library's own, or those that it asks for.
func ofSide(l []version, own bool) []version {
	var found []version
	for _, v := range l {
		if v.own == own {
			found = append(found, v)
		}
	}
	return found
}

// numbers: for the empty symbol and each of these a number, which says its version.
func numbers(l []api.Sym, all []version) []byte {
	f := le.New()
	f.Put16(0)
	for _, s := range l {
		number := uint16(noVersion)
		if v, ok := versionOf(all, s); ok {
			number = v.number
		}
		if s.Hidden {
			number |= hiddenBit
		}
		f.Put16(number)
	}
	return f.Bytes()
}

// ownVersions: the records of versions that the library has, one behind the other.
func (x *draft) ownVersions(l []version) []byte {
	f := le.New()
	for i, v := range l {
		f.Put16(recordKind)
		f.Put16(0) // no flags
		f.Put16(v.number)
		f.Put16(1) // as many names
		f.Put32(syms.Sysv(v.name))
		f.Put32(ownSize)
		f.Put32(next(i, len(l), ownSize+nameSize))
		f.Put32(uint32(x.texts.at(v.name)))
		f.Put32(0) // no further name
	}
	return f.Bytes()
}

// askedVersions: the records of versions that the library asks for, all of the first one that it needs, as a symbol doesn't say whose its version is.
func (x *draft) askedVersions(l []version) []byte {
	f := le.New()
	f.Put16(recordKind)
	f.Put16(uint16(len(l)))
	f.Put32(uint32(x.texts.at(x.spec.Needed[0])))
	f.Put32(libSize)
	f.Put32(0) // no further library
	for i, v := range l {
		f.Put32(syms.Sysv(v.name))
		f.Put16(0) // no flags
		f.Put16(v.number)
		f.Put32(uint32(x.texts.at(v.name)))
		f.Put32(next(i, len(l), askedSize))
	}
	return f.Bytes()
}

// next: how far behind the record of a number, of so many, the next one is; 0: it is the last one.
func next(number, many int, size uint32) uint32 {
	if number == many-1 {
		return 0
	}
	return size
}
