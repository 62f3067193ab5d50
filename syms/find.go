package syms

import "messuage/api"

// Exported: may a symbol be had by others?
func Exported(s api.Sym) bool { return s.Defined && s.Bind != api.Local }

// Find: the number of the first symbol that may be had of a name and a version; -1: none. Without a version: one that isn't hidden; with one: one of that version, or, where the library has no versions of its own, any.
func Find(l []api.Sym, versions bool, name, ver string) int {
	for i, s := range l {
		if Exported(s) && s.Name == name && hold(i, s).fits(versions, ver) {
			return i
		}
	}
	return none
}

// none: what is answered for a symbol's number, if there is none.
const none = -1

// held is what is asked of a symbol that may be had and has the name: its number is the answer.
type held struct {
	number int
	ver    string
	hidden bool
}

// hold: what is asked of the symbol of a number.
func hold(number int, s api.Sym) held { return held{number, s.Ver, s.Hidden} }

// fits: is it one for who asks for a version, or for none?
func (x held) fits(versions bool, ver string) bool {
	if ver == "" {
		return !x.hidden
	}
	return !versions || x.ver == ver
}

// Index is symbols by their names, so that one is found without going over all.
type Index struct {
	versions bool
	named    map[string][]held // those of one name, in order
}

// NewIndex: an index of symbols.
func NewIndex(l []api.Sym, versions bool) *Index {
	x := &Index{versions, map[string][]held{}}
	for i, s := range l {
		if Exported(s) {
			x.named[s.Name] = append(x.named[s.Name], hold(i, s))
		}
	}
	return x
}

// Find: as Find of the symbols.
func (x *Index) Find(name, ver string) int {
	for _, one := range x.named[name] {
		if one.fits(x.versions, ver) {
			return one.number
		}
	}
	return none
}

// Near: the number of the symbol that may be had in whose bytes a place lies (one of no bytes has just its own place), the one with the greatest value, of several the first; -1: none.
func Near(l []api.Sym, at uint64) int {
	near := none
	for i, s := range l {
		if Exported(s) && has(s, at) && (near == none || s.Value > l[near].Value) {
			near = i
		}
	}
	return near
}

// has: does a place lie in a symbol's bytes?
func has(s api.Sym, at uint64) bool {
	// How far it lies behind their beginning is asked, not where they end: that may be beyond 2^64.
	return at >= s.Value && at-s.Value < max(s.Size, 1)
}
