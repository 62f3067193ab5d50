package maker

import (
	"messuage/api"
	"messuage/le"
	"messuage/syms"
)

const (
	bindUnit = 16 // a symbol's binding and its type are one number
	typeNone = 0
	typeData = 1

	notDefined = 0
	defined    = 1 // any place but that: there are no sections to tell of

	rowShare = 4 // about so many symbols to a row of the older table

	filterBits  = 64
	filterShift = 6 // the next bits of a sum behind those that say a bit of the filter
)

// putSymbols: their records, an empty one ahead.
func (x *draft) putSymbols() {
	f := le.New()
	f.Zeros(syms.One)
	for _, s := range x.spec.Syms {
		x.putSymbol(f, s)
	}
	x.piece(tagSymtab, f.Bytes())
	x.say(tagSymtabOne, syms.One)
}

// putSymbol: the record of one.
func (x *draft) putSymbol(f *le.Buf, s api.Sym) {
	kind, where, value := uint16(typeNone), uint16(notDefined), uint64(0)
	if s.Defined {
		kind, where, value = typeData, defined, x.data+s.Value
	}
	f.Put32(uint32(x.texts.at(s.Name)))
	f.Put16(uint16(s.Bind)*bindUnit + kind) // the upper one of its two bytes isn't used
	f.Put16(where)
	f.Put64(value)
	f.Put64(s.Size)
}

// putSums: the tables that lead from names to symbols.
func (x *draft) putSums() {
	// The older one is always there: it tells how many symbols there are.
	x.piece(tagHash, older(x.spec.Syms))
	if x.spec.Gnu {
		x.piece(tagGnuHash, newer(x.spec.Syms))
	}
}

// older: the older table, each of whose rows leads to its symbols by rising numbers.
func older(l []api.Sym) []byte {
	rows := make([]uint32, 1+len(l)/rowShare)
	next := make([]uint32, 1+len(l))
	for i := len(l); i > 0; i-- {
		row := syms.Sysv(l[i-1].Name) % uint32(len(rows))
		next[i], rows[row] = rows[row], uint32(i)
	}
	f := le.New()
	putWords(f, uint32(len(rows)), uint32(len(next)))
	putWords(f, rows...)
	putWords(f, next...)
	return f.Bytes()
}

// newer: the newer table. It has one row, as a row's symbols must stand side by side, and all are to stand in the order in which they are given.
func newer(l []api.Sym) []byte {
	const rows, first, words = 1, 1, 1
	begin, filter, own := uint32(0), uint64(0), make([]uint32, len(l))
	for i, s := range l {
		sum := syms.Gnu(s.Name)
		filter |= 1<<(sum%filterBits) | 1<<(sum>>filterShift%filterBits)
		own[i] = sum &^ 1
	}
	if len(l) > 0 {
		begin = first
		own[len(l)-1] |= 1 // there the row ends
	}
	f := le.New()
	putWords(f, rows, first, words, filterShift)
	f.Put64(filter)
	putWords(f, begin)
	putWords(f, own...)
	return f.Bytes()
}

// putWords: numbers of four bytes.
func putWords(f *le.Buf, l ...uint32) {
	for _, n := range l {
		f.Put32(n)
	}
}
