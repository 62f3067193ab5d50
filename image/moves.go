package image

import (
	"slices"

	"messuage/api"
	"messuage/apply"
	"messuage/aps"
	"messuage/head"
	"messuage/relr"
	"messuage/rels"
)

// slotSize: how many bytes a relocation fills.
const slotSize = 8

// form is one of the forms in which a library tells relocations: where its bytes are, what is answered if they may not be, and how they are read.
type form struct {
	area   api.Area
	wrong  api.Errno
	decode func(b []byte) ([]api.Rel, api.Errno)
}

// forms: all of them, in the order in which their relocations stand.
func forms(machine uint16, d api.Dyn) []form {
	return []form{
		{d.Packed, api.ErrAps, func(b []byte) ([]api.Rel, api.Errno) { return aps.Decode(b, d.PackedRela) }},
		{d.Relr, api.ErrRelr, func(b []byte) ([]api.Rel, api.Errno) { return relatives(b, machine) }},
		{d.Rel, api.ErrRels, func(b []byte) ([]api.Rel, api.Errno) { return rels.Decode(b, false) }},
		{d.Rela, api.ErrRels, func(b []byte) ([]api.Rel, api.Errno) { return rels.Decode(b, true) }},
		{d.Plt, api.ErrRels, func(b []byte) ([]api.Rel, api.Errno) { return rels.Decode(b, d.PltRela) }},
	}
}

// relatives: a relocation for each place that rows of bits tell: what stands there is moved by the library's place.
func relatives(b []byte, machine uint16) ([]api.Rel, api.Errno) {
	places, e := relr.Decode(b)
	if e != api.OK {
		return nil, e
	}
	var l []api.Rel
	for _, at := range places {
		l = append(l, api.Rel{At: at, Type: apply.RelativeType(machine)})
	}
	return l, api.OK
}

// relocations: all that a library tells, in whichever forms; what they say isn't looked over yet.
func relocations(b []byte, h api.Heads, d api.Dyn) ([]api.Rel, api.Errno) {
	var all []api.Rel
	for _, f := range forms(h.Machine, d) {
		if !f.area.Has {
			continue
		}
		part, ok := head.Part(b, h, f.area.At, f.area.Size)
		if !ok {
			return nil, f.wrong
		}
		l, e := f.decode(part)
		if e != api.OK {
			return nil, f.wrong
		}
		all = append(all, l...)
	}
	return all, api.OK
}

// checkAll: what is wrong with relocations, in a library of so many symbols.
func checkAll(h api.Heads, symbols int, l []api.Rel) api.Errno {
	if len(l) > api.MaxRels {
		return api.ErrRels
	}
	var filled []uint64
	for _, r := range l {
		kind, e := check(h, symbols, r)
		if e != api.OK {
			return e
		}
		if kind != apply.None {
			filled = append(filled, r.At)
		}
	}
	if !apart(filled) {
		return api.ErrRelSlot
	}
	return api.OK
}

// check: the kind of a relocation, and what is wrong with it, the others aside.
func check(h api.Heads, symbols int, r api.Rel) (apply.Kind, api.Errno) {
	kind, ok := apply.Of(h.Machine, r.Type)
	switch {
	case !ok:
		return apply.None, api.ErrRelType
	case kind == apply.None:
		// It fills nothing: its place and its symbol may lead anywhere.
		return apply.None, api.OK
	case !head.Inside(h, r.At, slotSize):
		return apply.None, api.ErrRelSlot
	case uint64(r.Sym) >= uint64(symbols):
		return apply.None, api.ErrRelIndex
	}
	return kind, api.OK
}

// apart: have no two of these places, which it puts in order, a byte of what is filled there in common?
func apart(places []uint64) bool {
	slices.Sort(places)
	for i := 1; i < len(places); i++ {
		if places[i]-places[i-1] < slotSize {
			return false
		}
	}
	return true
}
