package maker

import (
	"slices"

	"messuage/api"
	"messuage/apply"
	"messuage/le"
	"messuage/num"
)

const (
	mostData      = 4096 // bytes of Data, and of Zeros
	mostFunctions = 8    // of those that begin a library, and of those that end it
	mostVersions  = api.MaxVers - 1

	slotSize = 8 // bytes that a relocation fills
)

// Right: may a library be made of this?
func Right(s api.Spec) bool {
	return machineRight(s) && namesRight(s) && dataRight(s) && symbolsRight(s) && movesRight(s) && slotsRight(s)
}

// machineRight: is there such a machine?
func machineRight(s api.Spec) bool { return s.Machine == api.Intel || s.Machine == api.Arm }

// namesRight: may these be the names of a library, and of those that it needs?
func namesRight(s api.Spec) bool {
	if !le.Plain(s.Soname) || !le.Plain(s.Runpath) || len(s.Needed) > api.MaxNeeded {
		return false
	}
	_, wrong := find(s.Needed, func(text string) bool { return !isName(text) })
	return !wrong
}

// isName: is a text the name of something?
func isName(text string) bool { return text != "" && le.Plain(text) }

// dataRight: may there be such data, and so many functions?
func dataRight(s api.Spec) bool {
	return len(s.Data) <= mostData && upTo(s.Zeros, mostData) &&
		upTo(s.Relro, len(s.Data)/api.PageSize) &&
		upTo(s.Init, mostFunctions) && upTo(s.Fini, mostFunctions)
}

// upTo: is a number from 0 to another one?
func upTo(n, most int) bool { return n >= 0 && n <= most }

// symbolsRight: may there be such symbols, with such versions? (The size of the data must be right.)
func symbolsRight(s api.Spec) bool {
	if len(s.Syms) >= api.MaxSyms {
		return false
	}
	_, wrong := find(s.Syms, func(x api.Sym) bool { return !symbolRight(s, x) })
	return !wrong && len(versionsOf(s.Syms)) <= mostVersions
}

// symbolRight: may there be such a symbol, the others aside?
func symbolRight(s api.Spec, x api.Sym) bool {
	if !isName(x.Name) || !le.Plain(x.Ver) || x.Bind < api.Local || x.Bind > api.Weak {
		return false
	}
	if x.Defined {
		return x.Value < dataSize(s)
	}
	// A version is asked for of a library: one must be needed.
	return x.Value == 0 && !x.Hidden && x.Bind != api.Local && (x.Ver == "" || len(s.Needed) > 0)
}

// movesRight: may there be such relocations, their places aside?
func movesRight(s api.Spec) bool {
	if len(s.Rels)+len(s.Relr) > api.MaxRels {
		return false
	}
	_, wrong := find(s.Rels, func(r api.Rel) bool { return !moveRight(s, r) })
	return !wrong
}

// moveRight: may there be such a relocation, its place aside?
func moveRight(s api.Spec, r api.Rel) bool {
	kind, ok := apply.Of(s.Machine, r.Type)
	if !ok || kind == apply.None || uint64(r.Sym) > uint64(len(s.Syms)) {
		return false
	}
	return r.Has == s.Rela && (r.Has || r.Add == 0)
}

// slotsRight: do all places lie in the data, with no byte in common, and those of Relr as they must? (The size of the data must be right, and there must not be too many places.)
func slotsRight(s api.Spec) bool {
	if !inRows(s.Relr) {
		return false
	}
	places := slices.Clone(s.Relr)
	for _, r := range s.Rels {
		places = append(places, r.At)
	}
	_, outside := find(places, func(at uint64) bool { return !num.Inside(at, slotSize, 0, dataSize(s)) })
	return !outside && apart(places)
}

// inRows: are places multiples of eight bytes that rise?
func inRows(places []uint64) bool {
	for i, at := range places {
		if at%slotSize != 0 || i > 0 && at <= places[i-1] {
			return false
		}
	}
	return true
}

// apart: have no two of these places, which it puts in order, a byte of what is filled there in common?
func apart(places []uint64) bool {
	slices.Sort(places)
	for i := 1; i < len(places); i++ {
		if !num.Apart(places[i-1], slotSize, places[i], slotSize) {
			return false
		}
	}
	return true
}
