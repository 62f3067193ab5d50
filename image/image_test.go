package image_test

import (
	"bytes"
	"fmt"
	"reflect"
	"slices"
	"testing"

	"messuage/api"
	"messuage/head"
	"messuage/image"
	"messuage/relr"
)

// P16.1: the chapter's own example.
func TestExample(t *testing.T) {
	refuses(t, "no bytes", nil, api.ErrMagic)
	refuses(t, "no bytes", []byte{}, api.ErrMagic)
}

// P16.1: a library that has all that one can have, and one that has next to nothing.
func TestParse(t *testing.T) {
	for _, machine := range machines() {
		x := whole(machine)
		says(t, "whole", x, wholeMoves(machine)...)
		l := parse(t, "whole", x.File())
		if l.Heads.Machine != machine || len(l.Heads.Loads) != 6 || l.Heads.Loads[4].Memsz != lastEnd-noughtsAt || l.Heads.Dynamic.Vaddr != dynAt || l.Heads.Relro.Vaddr != dataAt || l.Heads.Relro.Memsz != 256 {
			t.Errorf("%+v", l.Heads)
		}
		d := l.Dyn
		if d.Soname != "a.so" || d.Runpath != "/lib" || !slices.Equal(d.Needed, []string{"b.so"}) || !d.Symbolic || !d.Global || !d.Nodelete || !d.PltRela || d.PackedRela {
			t.Errorf("%+v", d)
		}
		if !slices.Equal(l.Syms, versionedSymbols()) {
			t.Errorf("%+v", l.Syms)
		}
		if l.Init != 3 || l.Fini != 2 || !image.Versions(l) {
			t.Errorf("%d, %d", l.Init, l.Fini)
		}
		says(t, "small", small(machine))
		if l := parse(t, "small", small(machine).File()); l.Heads.Relro != (api.Phdr{}) || l.Init != 0 || l.Fini != 0 || image.Versions(l) {
			t.Errorf("%+v", l)
		}
	}
}

// P16.1: files of 2^18 bytes, and of one more, which isn't looked at.
func TestBig(t *testing.T) {
	b := whole(api.Intel).File()
	l := parse(t, "small", b)
	if again := parse(t, "2^18 bytes", longer(b, api.MaxFile)); !reflect.DeepEqual(l, again) {
		t.Errorf("%+v, not %+v", again, l)
	}
	far := shifted(b, (api.MaxFile-uint64(len(b)))/256*256)
	if again := parse(t, "parts at the end", longer(far, api.MaxFile)); !slices.Equal(l.Rels, again.Rels) || !slices.Equal(l.Syms, again.Syms) {
		t.Errorf("%+v, not %+v", again, l)
	}
	refuses(t, "2^18 bytes, no library", make([]byte, api.MaxFile), api.ErrMagic)
	for _, size := range []int{api.MaxFile + 1, api.MaxFile + 2, 2 * api.MaxFile, 1 << 24} {
		refuses(t, "too big", longer(b, size), api.ErrBig)
		refuses(t, "too big", make([]byte, size), api.ErrBig)
	}
}

// fault is something that is wrong with a library: what it does to it ahead of its being laid down, and behind that.
type fault struct {
	name string
	want api.Errno
	lib  func(x *lib)
	file func(b []byte) []byte
}

// turned: what turns a byte of a file.
func turned(at int, n byte) func(b []byte) []byte {
	return func(b []byte) []byte { b[at] = n; return b }
}

// faults: one for each error, in the order in which the chapter tells them.
func faults() []fault {
	l := []fault{
		{name: "big", want: api.ErrBig, file: func(b []byte) []byte { return longer(b, api.MaxFile+1) }},
		{name: "magic", want: api.ErrMagic, file: turned(1, 0)},
		{name: "class", want: api.ErrClass, file: turned(5, 2)},
		{name: "type", want: api.ErrType, file: turned(16, 2)},
		{name: "machine", want: api.ErrMachine, file: turned(18, 40)},
		{name: "heads", want: api.ErrHeads, file: turned(54, 55)},
		{name: "load", want: api.ErrLoad, lib: func(x *lib) { x.Loads[5].Flags = 8 }},
		{name: "dynamic", want: api.ErrDynamic, file: turned(64+56*6, 9)},
		{name: "relro", want: api.ErrRelro, lib: func(x *lib) { x.Others[0].Vaddr = 1 }},
		{name: "tags", want: api.ErrTags, lib: func(x *lib) { delete(x.Tags, 18) }},
		{name: "strings", want: api.ErrStrtab, lib: func(x *lib) { x.Tags[14] = huge }},
		{name: "needed", want: api.ErrNeeded, lib: func(x *lib) { x.Tags[1] = 0 }},
		{name: "how many symbols", want: api.ErrHash, lib: func(x *lib) { x.Tags[4] = huge }},
		{name: "symbols", want: api.ErrSymtab, lib: func(x *lib) { x.Tags[6] = huge }},
		{name: "sums", want: api.ErrHash, lib: func(x *lib) { x.Put(hashAt+8, 4, 0) }},
		{name: "versions", want: api.ErrVersion, lib: func(x *lib) { x.Tags[0x6ffffffd] = 34 }},
		{name: "the symbols' versions", want: api.ErrVersion, lib: func(x *lib) { x.Put(numbersAt+2, 2, 9) }},
		{name: "init", want: api.ErrTags, lib: func(x *lib) { x.Tags[27] = 7 }},
		{name: "fini", want: api.ErrTags, lib: func(x *lib) { x.Tags[26] = huge }},
	}
	return append(l, moveFaults()...)
}

// moveFaults: those of relocations.
func moveFaults() []fault {
	l := forms()
	elsewhere := func(f form) func(x *lib) { return func(x *lib) { x.Tags[f.at] = huge } }
	return []fault{
		{name: "packed", want: api.ErrAps, lib: elsewhere(l[packed])},
		{name: "relr", want: api.ErrRelr, lib: elsewhere(l[bits])},
		{name: "rel", want: api.ErrRels, lib: elsewhere(l[rel])},
		{name: "rela", want: api.ErrRels, lib: elsewhere(l[rela])},
		{name: "plt", want: api.ErrRels, lib: elsewhere(l[pltWith])},
		{name: "too many", want: api.ErrRels, lib: func(x *lib) { x.moved(l[plt], make([]api.Rel, most)...) }},
		{name: "type", want: api.ErrRelType, lib: func(x *lib) { x.moved(l[packed], api.Rel{At: dataAt + 300, Type: 2}) }},
		{name: "slot", want: api.ErrRelSlot, lib: func(x *lib) { x.moved(l[bits], api.Rel{At: lastEnd - 6}) }},
		{name: "index", want: api.ErrRelIndex, lib: func(x *lib) { x.Put(x.Tags[17]+12, 4, symbols) }},
		{name: "the next type", want: api.ErrRelType, lib: func(x *lib) { x.Put(x.Tags[17]+24, 4, 2) }},
		{name: "the next slot", want: api.ErrRelSlot, lib: func(x *lib) { x.Put(x.Tags[7], 8, huge-7) }},
		{name: "the next index", want: api.ErrRelIndex, lib: func(x *lib) { x.Put(x.Tags[7]+36, 4, 1<<32-1) }},
		{name: "common bytes", want: api.ErrRelSlot, lib: func(x *lib) { x.Put(x.Tags[23], 8, dataAt+71) }},
	}
}

// with: the file of a whole library with faults.
func with(machine uint16, l ...fault) []byte {
	x := whole(machine)
	for _, f := range l {
		if f.lib != nil {
			f.lib(x)
		}
	}
	b := x.File()
	for _, f := range l {
		if f.file != nil {
			b = f.file(b)
		}
	}
	return b
}

// P16.1: each error; and of any two faults the first one is told. (The later one is done first: where both turn the same, the first one stays.)
func TestFirst(t *testing.T) {
	l := faults()
	for _, machine := range machines() {
		for i, f := range l {
			refuses(t, f.name, with(machine, f), f.want)
			for _, g := range l[i+1:] {
				refuses(t, f.name+" and "+g.name, with(machine, g, f), f.want)
			}
			refuses(t, f.name+" and all behind it", with(machine, behind(l[i:])...), f.want)
		}
	}
}

// behind: the faults, the last one first.
func behind(l []fault) []fault {
	l = slices.Clone(l)
	slices.Reverse(l)
	return l
}

// lists: the tags of the lists of functions.
func lists() [][2]uint64 { return [][2]uint64{{25, 27}, {26, 28}} }

// checkFunctions: a library with either list there is told to have so many functions; -1: it may not be.
func checkFunctions(t *testing.T, at, size uint64, want int) {
	t.Helper()
	for i, list := range lists() {
		x := small(api.Arm).tag(list[0], at).tag(list[1], size)
		what := fmt.Sprintf("list %d, %d bytes at %d", i, size, at)
		if want < 0 {
			fails(t, what, x, api.ErrTags)
			continue
		}
		l := parse(t, what, x.File())
		if got := [2]int{l.Init, l.Fini}; got[i] != want || got[1-i] != 0 {
			t.Errorf("%s: %v", what, got)
		}
	}
}

// P16.1: lists of functions: their size.
func TestFunctionsSize(t *testing.T) {
	for size := range uint64(70) {
		want := -1
		if size%8 == 0 {
			want = int(size / 8)
		}
		checkFunctions(t, dataAt, size, want)
		checkFunctions(t, dataAt+3, size, want) // a place needn't be a multiple
	}
	checkFunctions(t, listsAt, dataAt-listsAt, (dataAt-listsAt)/8)
	for _, size := range []uint64{dataAt - listsAt + 8, spanEnd, spanEnd + 8, 1 << 20, 1 << 32, 1<<32 + 8, 1 << 63, 1<<63 + 8, huge - 7, huge} {
		checkFunctions(t, listsAt, size, -1)
		checkFunctions(t, 0, size, -1)
	}
}

// P16.1: lists of functions: where they lie: in one part of the memory, noughts behind the file's bytes counted.
func TestFunctionsPlace(t *testing.T) {
	for _, at := range []uint64{0, secondAt - 16, secondAt, dataAt, noughtsAt - 16, noughtsAt, lastFile - 16, lastFile - 8, lastFile - 3, lastFile, lastFile + 8, lastEnd - 16, endAt, spanEnd - 16} {
		checkFunctions(t, at, 16, 2)
	}
	for _, end := range []uint64{secondAt, listsAt, dataAt, noughtsAt, lastEnd, spanEnd} {
		for more := uint64(1); more < 16; more++ {
			checkFunctions(t, end-16+more, 16, -1)
		}
	}
	for _, at := range []uint64{lastEnd, lastEnd + 8, endAt - 16, endAt - 8, endAt - 1, spanEnd, spanEnd + 8, 1 << 32, 1<<32 + dataAt, 1 << 63, 1<<63 + dataAt, huge - 31, huge - 15, huge - 14, huge - 7, huge} {
		checkFunctions(t, at, 16, -1)
	}
	// No functions lie where layer 8 says of no bytes that they do.
	for _, at := range []uint64{0, dataAt, dataAt + 1, lastFile, lastEnd, endAt, spanEnd} {
		checkFunctions(t, at, 0, 0)
	}
	for _, at := range []uint64{lastEnd + 1, endAt - 1, spanEnd + 1, huge} {
		checkFunctions(t, at, 0, -1)
	}
}

// P16.1: both lists: how many functions each has; one alone that may not be.
func TestFunctionsBoth(t *testing.T) {
	x := small(api.Intel).tag(25, dataAt).tag(27, 40).tag(26, dataAt+16).tag(28, 8) // they may have bytes in common
	if l := parse(t, "both", x.File()); l.Init != 5 || l.Fini != 1 {
		t.Error(l.Init, l.Fini)
	}
	fails(t, "init", x.tag(27, 41), api.ErrTags)
	fails(t, "both", x.tag(28, 9), api.ErrTags)
	fails(t, "fini", x.tag(27, 40), api.ErrTags)
}

// P16.1: each form alone, on both machines: its relocations, in order; none at all.
func TestForms(t *testing.T) {
	for _, machine := range machines() {
		for _, f := range forms() {
			for _, many := range []int{0, 1, 2, 17} {
				l := f.moves(machine, dataAt+16, many)
				says(t, f.name, small(machine).moved(f, l...), l...)
			}
			l := f.moves(machine, dataAt, 3)
			l[0], l[2] = l[2], l[0]
			says(t, f.name+", places that don't rise", small(machine).moved(f, l...), l...)
		}
	}
}

// P16.1: all forms together: those of Packed, Relr, Rel, Rela, Plt, wherever they lie.
func TestFormsTogether(t *testing.T) {
	all := forms()
	for _, machine := range machines() {
		for _, l := range [][]form{
			{all[packed], all[bits], all[rel], all[rela], all[plt]},
			{all[packedWith], all[bits], all[rel], all[rela], all[pltWith]},
			{all[packed], all[bits], all[rela], all[pltWith]},
			{all[bits], all[rel], all[plt]}, {all[rel], all[rela]}, {all[rela], all[pltWith]}, {all[packedWith], all[rela]},
		} {
			var want []api.Rel
			up, down := small(machine), small(machine)
			for i, f := range l {
				want = append(want, f.moves(machine, dataAt+400-64*uint64(i), 3)...)
				up.moved(f, want[3*i:]...)
			}
			for i, f := range slices.Backward(l) {
				down.moved(f, want[3*i:3*i+3]...)
			}
			says(t, "together", up, want...)
			says(t, "together, the other way round", down, want...)
		}
	}
}

// P16.1: what relocations say is handed on whole.
func TestFields(t *testing.T) {
	all := forms()
	for _, f := range []form{all[packedWith], all[rela], all[pltWith]} {
		l := []api.Rel{
			{At: dataAt, Type: 1, Sym: 3, Add: -1 << 63, Has: true}, {At: dataAt + 8, Type: 6, Sym: 2, Add: 1<<63 - 1, Has: true},
			{At: dataAt + 16, Type: 7, Sym: 1, Add: -1, Has: true}, {At: dataAt + 24, Type: 8, Sym: 3, Add: 1, Has: true}, {At: 0, Type: 0, Sym: 1, Add: 7, Has: true},
		}
		says(t, f.name, small(api.Intel).moved(f, l...), l...)
	}
	for _, f := range []form{all[packed], all[rel], all[plt]} {
		l := []api.Rel{{At: dataAt, Type: 257, Sym: 3}, {At: dataAt + 8, Type: 1025, Sym: 2}, {At: dataAt + 16, Type: 1026, Sym: 1}, {At: dataAt + 24, Type: 1027, Sym: 3}}
		says(t, f.name, small(api.Arm).moved(f, l...), l...)
	}
}

// P16.1: the bytes of each form must all be in one part of the file.
func TestFormsPlace(t *testing.T) {
	for _, f := range forms() {
		l := f.moves(api.Intel, dataAt+8, 2)
		list := f.bytes(l)
		size := uint64(len(list))
		at := func(place uint64) *lib {
			x := small(api.Intel).lies(f, listsAt, nil)
			copy(x.Image[min(place, spanEnd):], list)
			return x.tag(f.at, place).tag(f.size, size)
		}
		for _, place := range []uint64{listsAt, dataAt - size, dataAt, noughtsAt - size, noughtsAt, lastFile - size, endAt, spanEnd - size, secondAt - size} {
			says(t, f.name, at(place), l...)
		}
		for more := uint64(1); more < size; more++ {
			fails(t, f.name+", in two parts", at(dataAt-size+more), f.wrong)
			fails(t, f.name+", in two parts", at(noughtsAt-size+more), f.wrong)
			fails(t, f.name+", noughts with it", at(lastFile-size+more), f.wrong)
			fails(t, f.name+", in the gap", at(endAt-size+more), f.wrong)
			fails(t, f.name+", at the end", at(spanEnd-size+more), f.wrong)
			fails(t, f.name+", round the end", at(huge-size+more), f.wrong)
		}
		for _, place := range []uint64{lastFile, lastFile + 8, lastEnd - size, lastEnd, spanEnd, spanEnd + 8, 1 << 20, 1 << 32, 1<<32 + listsAt, 1 << 63, 1<<63 + listsAt, huge, -size, 1 - size} {
			fails(t, f.name+", elsewhere", at(place), f.wrong)
		}
		for _, more := range []uint64{spanEnd, 1 << 32, 1 << 63, huge - size - listsAt + 1, huge - size} {
			fails(t, f.name+", too many bytes", at(listsAt).tag(f.size, size+more), f.wrong)
		}
	}
}

// P16.1: bytes of each form that its layer refuses.
func TestFormsRefused(t *testing.T) {
	for _, f := range forms() {
		list := f.bytes(f.moves(api.Intel, dataAt+8, 3))
		x := small(api.Intel).tells(f, list)
		size := uint64(len(list))
		one := size / 3 // so many bytes have the relocations of plain lists, and of rows of bits
		for less := uint64(1); less < size; less++ {
			if f.wrong == api.ErrAps || less%one != 0 {
				fails(t, f.name+", less of it", x.tag(f.size, size-less), f.wrong)
			}
		}
		for more := uint64(1); more < 8; more++ {
			fails(t, f.name+", more", small(api.Intel).tells(f, longer(list, len(list)+int(more))), f.wrong)
		}
	}
	all := forms()
	for _, list := range [][]byte{words(1), words(3), words(3, 8), words(dataAt, huge-7, 1), words(huge-7, 3)} {
		fails(t, "rows of bits", small(api.Arm).tells(all[bits], list), api.ErrRelr)
	}
	for _, f := range []form{all[packed], all[packedWith]} {
		for _, list := range []string{"", "APS", "APS2", "APS2\x00", "APS1\x00\x00", "APS2\x01\x00", "APS2\x00\x00\x00", "APS2\x7f\x00", "APS2\x01\x00\x02\x01\x08\x10", "APS2\x01\x00\x01\x10\x08\x10"} {
			fails(t, f.name, small(api.Arm).tells(f, []byte(list)), api.ErrAps)
		}
	}
	// Something is added just in a list that says so.
	added := all[packedWith].bytes(all[packedWith].moves(api.Arm, dataAt, 2))
	fails(t, "packed, with", small(api.Arm).tells(all[packed], added), api.ErrAps)
}

// P16.1: Plt is read as its third tag says it.
func TestPlt(t *testing.T) {
	all := forms()
	a, b := all[plt], all[pltWith]
	three := a.bytes([]api.Rel{{At: 8, Type: 0, Sym: 7}, {At: 16}, {At: 0, Type: 0, Sym: 9}})
	says(t, "48 bytes, without", small(api.Intel).tells(a, three), api.Rel{At: 8, Sym: 7}, api.Rel{At: 16}, api.Rel{Sym: 9})
	says(t, "48 bytes, with", small(api.Intel).tells(b, three), api.Rel{At: 8, Sym: 7, Add: 16, Has: true}, api.Rel{Add: 9 << 32, Has: true})
	fails(t, "24 bytes, without", small(api.Intel).tells(a, make([]byte, 24)), api.ErrRels)
	fails(t, "16 bytes, with", small(api.Intel).tells(b, make([]byte, 16)), api.ErrRels)
	fails(t, "24 bytes of rel", small(api.Intel).tells(all[rel], make([]byte, 24)), api.ErrRels)
	fails(t, "16 bytes of rela", small(api.Intel).tells(all[rela], make([]byte, 16)), api.ErrRels)
	// The other lists aren't read so.
	l := []api.Rel{{At: dataAt, Type: 8}, {At: dataAt + 8, Type: 8}, {At: dataAt + 16, Type: 8}}
	says(t, "rel beside Plt, with", small(api.Intel).moved(b).moved(all[rel], l...), l...)
}

// P16.1: lists of no bytes: of plain ones and rows of bits there may be, where layer 8 says of no bytes that they lie; none of Packed.
func TestFormsEmpty(t *testing.T) {
	for _, f := range forms() {
		for _, at := range []uint64{0, listsAt, dataAt, lastFile, endAt, spanEnd} {
			x := small(api.Intel).lies(f, listsAt, nil).tag(f.at, at)
			if f.wrong == api.ErrAps {
				fails(t, f.name, x, f.wrong)
			} else {
				says(t, f.name, x)
			}
		}
		for _, at := range []uint64{lastFile + 1, lastEnd, endAt - 1, spanEnd + 1, huge} {
			fails(t, f.name, small(api.Intel).lies(f, listsAt, nil).tag(f.at, at), f.wrong)
		}
	}
}

// P16.1: a relocation for each place of Relr, on both machines.
func TestRelr(t *testing.T) {
	f := forms()[bits]
	for machine, kind := range map[uint16]uint32{62: 8, 183: 1027} {
		says(t, "rows of bits", small(machine).tells(f, words(dataAt, 11, dataAt+100)),
			api.Rel{At: dataAt, Type: kind}, api.Rel{At: dataAt + 8, Type: kind}, api.Rel{At: dataAt + 24, Type: kind}, api.Rel{At: dataAt + 100, Type: kind})
		places := []uint64{2}
		for at := uint64(listsAt + 16); at < listsAt+4000; at += 8 + at/10%4*2 {
			places = append(places, at)
		}
		list, e := relr.Encode(places)
		if e != api.OK {
			t.Fatal(e)
		}
		var want []api.Rel
		for _, at := range places {
			want = append(want, api.Rel{At: at, Type: kind})
		}
		says(t, "many", small(machine).tells(f, list), want...)
	}
}

// P16.1: 512 relocations, and one more, of one form.
func TestMost(t *testing.T) {
	for _, machine := range machines() {
		for _, f := range forms() {
			if f.wrong == api.ErrRelr {
				continue
			}
			says(t, f.name+", nothing is done", small(machine).moved(f, f.none(most)...), f.none(most)...)
			l := f.moves(machine, 8, most)
			says(t, f.name, small(machine).moved(f, l...), l...)
			if f.wrong == api.ErrRels {
				fails(t, f.name+", one more", small(machine).moved(f, f.moves(machine, 8, most+1)...), f.wrong)
			}
		}
		all := forms()
		// Nine groups of 57 that tell each but their first place by a step of nought: 513 of type 0.
		fails(t, "packed, one more", small(machine).tells(all[packed], append([]byte("APS2\x81\x04\x00"), bytes.Repeat([]byte("\x39\x03\x00\x00"), 9)...)), api.ErrAps)
		l := all[bits].moves(machine, 8, most)
		says(t, "relr", small(machine).moved(all[bits], l...), l...)
		fails(t, "relr, one more word", small(machine).moved(all[bits], all[bits].moves(machine, 8, most+1)...), api.ErrRelr)
		row := words(8, huge, huge, huge, huge, huge, huge, huge, huge) // one and eight times 63
		says(t, "relr, rows", small(machine).tells(all[bits], append(row, words(8+8*505, 8+8*506, 8+8*507, 8+8*508, 8+8*509, 8+8*510, 8+8*511)...)), l...)
		fails(t, "relr, rows, one more", small(machine).tells(all[bits], append(row, words(8+8*505, 511)...)), api.ErrRelr)
	}
}

// none: so many relocations of type 0.
func (f form) none(many int) []api.Rel {
	l := make([]api.Rel, many)
	for i := range l {
		l[i].Has = f.with
	}
	return l
}

// P16.1: 512 relocations, and one more, of any two forms together.
func TestMostTogether(t *testing.T) {
	for _, f := range forms() {
		for _, g := range forms() {
			if !f.beside(g) {
				continue
			}
			for _, many := range []int{1, 200, 256, most - 1} {
				first, second := f.moves(api.Arm, 8, many), g.moves(api.Arm, 8000, most-many)
				x := small(api.Arm).moved(f, first...).moved(g, second...)
				if l := parse(t, f.name+" and "+g.name, x.File()); len(l.Rels) != most {
					t.Errorf("%s and %s: %d", f.name, g.name, len(l.Rels))
				}
				second = g.moves(api.Arm, 8000, most-many+1)
				fails(t, f.name+" and "+g.name+", one more", small(api.Arm).moved(f, first...).moved(g, second...), api.ErrRels)
			}
		}
	}
	// Also those count that do nothing; and that is told ahead of what else is wrong with one.
	all := forms()
	x := small(api.Intel).moved(all[rel], all[rel].none(most)...)
	if l := parse(t, "that do nothing", x.File()); len(l.Rels) != most {
		t.Error(len(l.Rels))
	}
	fails(t, "one more that does nothing", x.moved(all[packed], api.Rel{}), api.ErrRels)
	fails(t, "one more with a type that there isn't", x.moved(all[packed], api.Rel{Type: 3}), api.ErrRels)
	fails(t, "one more at no place", x.moved(all[packed], api.Rel{At: huge, Type: 8, Sym: 9}), api.ErrRels)
}

// kinds: which types a machine has, but 0.
func kinds(machine uint16) []uint32 {
	return map[uint16][]uint32{api.Intel: {1, 6, 7, 8}, api.Arm: {257, 1025, 1026, 1027}}[machine]
}

// P16.1: types, those that the machine has and all others; ahead of them no place and no symbol is asked.
func TestTypes(t *testing.T) {
	f := forms()[rel]
	types := []uint32{1 << 16, 1<<16 + 8, 1 << 24, 1 << 31, 1<<31 + 8, 1<<32 - 1, 1<<32 - 8}
	for kind := range uint32(1100) {
		types = append(types, kind)
	}
	for _, machine := range machines() {
		for _, kind := range types {
			right := api.Rel{At: dataAt + 8, Type: kind, Sym: 1}
			for _, r := range []api.Rel{right, {At: huge, Type: kind, Sym: 1}, {At: dataAt + 8, Type: kind, Sym: symbols}, {At: huge, Type: kind, Sym: symbols}} {
				what, x := fmt.Sprintf("machine %d: %+v", machine, r), small(machine).moved(f, r)
				switch {
				case kind == 0:
					says(t, what, x, r)
				case !slices.Contains(kinds(machine), kind):
					fails(t, what, x, api.ErrRelType)
				case r.At == huge:
					fails(t, what, x, api.ErrRelSlot)
				case r.Sym == symbols:
					fails(t, what, x, api.ErrRelIndex)
				default:
					says(t, what, x, r)
				}
			}
		}
	}
}

// each: does something with each type of each machine, and each form that can tell a relocation of it with any place and symbol.
func each(do func(machine uint16, f form, kind uint32)) {
	for _, machine := range machines() {
		for _, f := range forms() {
			for _, kind := range kinds(machine) {
				if f.wrong != api.ErrRelr {
					do(machine, f, kind)
				}
			}
		}
	}
}

// P16.1: relocations of type 0, whose place and symbol lead anywhere.
func TestNone(t *testing.T) {
	for _, machine := range machines() {
		for _, f := range forms() {
			if f.wrong == api.ErrRelr {
				continue
			}
			var l []api.Rel
			for _, at := range []uint64{0, 1, dataAt, dataAt, lastEnd, lastEnd - 7, spanEnd, 1 << 40, 1 << 63, huge - 7, huge - 6, huge} {
				for _, sym := range []uint32{0, 1, symbols - 1, symbols, 1 << 31, 1<<32 - 1} {
					l = append(l, api.Rel{At: at, Sym: sym, Has: f.with})
				}
			}
			says(t, f.name, small(machine).moved(f, l...), l...)
		}
	}
}

// P16.1: places: the eight bytes must all be in one part of the memory.
func TestSlots(t *testing.T) {
	each(func(machine uint16, f form, kind uint32) {
		at := func(place uint64) (string, *lib, api.Rel) {
			r := api.Rel{At: place, Type: kind, Sym: 1, Has: f.with}
			return fmt.Sprintf("%s: %+v", f.name, r), small(machine).moved(f, r), r
		}
		for _, place := range []uint64{0, 1, secondAt - 8, secondAt, listsAt, dataAt - 8, dataAt, dataAt + 1, noughtsAt - 8, noughtsAt, lastFile - 8, lastFile - 4, lastFile, lastEnd - 9, lastEnd - 8, endAt, spanEnd - 8} {
			what, x, r := at(place)
			says(t, what, x, r)
		}
		wrong := []uint64{lastEnd, lastEnd + 8, endAt - 8, spanEnd, spanEnd + 8, 1 << 20, 1 << 32, 1<<32 + dataAt, 1 << 63, 1<<63 + dataAt, huge - 8}
		for less := uint64(1); less < 8; less++ {
			wrong = append(wrong, secondAt-less, dataAt-less, noughtsAt-less, lastEnd-less, endAt-less, spanEnd-less, -less)
		}
		for _, place := range append(wrong, huge-7) {
			what, x, _ := at(place)
			fails(t, what, x, api.ErrRelSlot)
		}
	})
}

// P16.1: places that Relr tells, likewise.
func TestSlotsOfRelr(t *testing.T) {
	f := forms()[bits]
	for _, machine := range machines() {
		for _, place := range []uint64{0, 2, secondAt - 8, dataAt, lastFile - 4, lastEnd - 8, endAt, spanEnd - 8} {
			says(t, "relr", small(machine).tells(f, words(place)), api.Rel{At: place, Type: relative(machine)})
		}
		for _, place := range []uint64{secondAt - 2, secondAt - 6, dataAt - 4, noughtsAt - 2, lastEnd - 6, lastEnd, endAt - 2, spanEnd - 6, spanEnd, 1 << 32, 1 << 63, huge - 9} {
			fails(t, "relr", small(machine).tells(f, words(place)), api.ErrRelSlot)
		}
		fails(t, "relr, its last one", small(machine).tells(f, words(spanEnd-16, 7)), api.ErrRelSlot)
		says(t, "relr, its last one", small(machine).tells(f, words(spanEnd-16, 3)), api.Rel{At: spanEnd - 16, Type: relative(machine)}, api.Rel{At: spanEnd - 8, Type: relative(machine)})
	}
}

// P16.1: the numbers of symbols, asked also where the kind wants none.
func TestIndex(t *testing.T) {
	each(func(machine uint16, f form, kind uint32) {
		for _, sym := range []uint32{0, 1, 2, symbols - 1, symbols, symbols + 1, 255, 256, 1 << 16, 1<<16 + 1, 1<<24 + 1, 1 << 31, 1<<31 + 1, 1<<32 - 1} {
			r := api.Rel{At: dataAt, Type: kind, Sym: sym, Has: f.with}
			what, x := fmt.Sprintf("%s: %+v", f.name, r), small(machine).moved(f, r)
			if sym < symbols {
				says(t, what, x, r)
			} else {
				fails(t, what, x, api.ErrRelIndex)
			}
			r.At = huge
			fails(t, what+", at no place", small(machine).moved(f, r), api.ErrRelSlot)
		}
	})
}

// P16.1: libraries of the empty symbol alone, and of as many as there may be.
func TestIndexOfMany(t *testing.T) {
	f := forms()[rel]
	for _, many := range []uint64{1, 2, 255, 256} {
		x := small(api.Intel)
		x.Put(hashAt, 4, 1, many, 0)
		x.Tags[6] = listsAt
		for number := uint64(1); number < many; number++ {
			x.Put(listsAt+24*number, 4, text("g"), 0x10)
		}
		last := api.Rel{At: dataAt, Type: 7, Sym: uint32(many - 1)}
		says(t, "the last one", x.moved(f, last), last)
		last.Sym++
		fails(t, "one more", x.moved(f, last), api.ErrRelIndex)
	}
}

// P16.1: of several relocations the first one's error is told, whichever it is; of one the error that is named first.
func TestFirstMove(t *testing.T) {
	wrong := map[api.Errno]api.Rel{
		api.ErrRelType:  {At: dataAt, Type: 9, Sym: 1},
		api.ErrRelSlot:  {At: lastEnd, Type: 8, Sym: 1},
		api.ErrRelIndex: {At: dataAt, Type: 8, Sym: symbols},
	}
	all := forms()
	right := api.Rel{At: dataAt, Type: 6, Sym: 2}
	for e, r := range wrong {
		for _, next := range wrong {
			x := small(api.Intel).moved(all[rel], right, r, right, next)
			fails(t, "in one list", x, e)
			fails(t, "in two lists", small(api.Intel).moved(all[plt], next).moved(all[rel], r), e)
			fails(t, "in two lists", small(api.Intel).moved(all[packed], right, r).moved(all[plt], next), e)
		}
		fails(t, "behind common bytes", small(api.Intel).moved(all[packed], right, right).moved(all[plt], r), e)
	}
	fails(t, "just common bytes", small(api.Intel).moved(all[packed], right, right), api.ErrRelSlot)
}

// P16.1: two places that have bytes in common, told in any forms, in either order.
func TestCommon(t *testing.T) {
	for _, machine := range machines() {
		for _, f := range forms() {
			for _, g := range forms() {
				if !f.beside(g) {
					continue
				}
				for _, apart := range []uint64{0, 1, 2, 4, 6, 7, 8, 9, 10} {
					for _, places := range [][2]uint64{{dataAt + 16, dataAt + 16 + apart}, {dataAt + 16 + apart, dataAt + 16}} {
						checkPair(t, machine, f, g, places, apart >= 8)
					}
				}
			}
		}
	}
}

// checkPair: may a library have relocations at two places, told in two forms?
func checkPair(t *testing.T, machine uint16, f, g form, places [2]uint64, may bool) {
	t.Helper()
	if f.wrong == api.ErrRelr && places[0]%2 == 1 || g.wrong == api.ErrRelr && places[1]%2 == 1 {
		return // such a place can't be told
	}
	what := fmt.Sprintf("%s and %s, at %v", f.name, g.name, places)
	a, b := f.moves(machine, places[0], 1), g.moves(machine, places[1], 1)
	x := small(machine).moved(f, a...).moved(g, b...)
	if may {
		if l := parse(t, what, x.File()); len(l.Rels) != 2 {
			t.Errorf("%s: %+v", what, l.Rels)
		}
	} else {
		fails(t, what, x, api.ErrRelSlot)
	}
	// One that does nothing has no bytes.
	if f.wrong != api.ErrRelr {
		a[0].Type = 0
		parse(t, what+", one of type 0", small(machine).moved(f, a...).moved(g, b...).File())
	}
}

// P16.1: likewise in one list, also of those that don't stand beside each other; and of any types.
func TestCommonInList(t *testing.T) {
	each(func(machine uint16, f form, kind uint32) {
		for apart := range uint64(10) {
			for _, other := range append(kinds(machine), 0) {
				a, b := api.Rel{At: dataAt + 16, Type: kind, Sym: 1, Has: f.with}, api.Rel{At: dataAt + 16 + apart, Type: other, Sym: 2, Has: f.with}
				between := f.moves(machine, dataAt+64, 3)
				for _, l := range [][]api.Rel{{a, b}, {b, a}, slices.Concat([]api.Rel{a}, between, []api.Rel{b}), slices.Concat(between, []api.Rel{b, a})} {
					if apart >= 8 || other == 0 {
						says(t, f.name, small(machine).moved(f, l...), l...)
					} else {
						fails(t, f.name, small(machine).moved(f, l...), api.ErrRelSlot)
					}
				}
			}
		}
	})
	// In different parts, at the end of one and the beginning of the next one.
	f := forms()[rel]
	l := []api.Rel{{At: noughtsAt, Type: 8}, {At: noughtsAt - 8, Type: 8}}
	says(t, "two parts", small(api.Intel).moved(f, l...), l...)
}

// P16.1: libraries with versions: of their own, asked for, both; what isn't right of them is told.
func TestVersionsOfSymbols(t *testing.T) {
	for _, machine := range machines() {
		if l := parse(t, "without", small(machine).File()); !slices.Equal(l.Syms, smallSymbols()) {
			t.Errorf("%+v", l.Syms)
		}
		if l := parse(t, "with", small(machine).versioned().File()); !slices.Equal(l.Syms, versionedSymbols()) {
			t.Errorf("%+v", l.Syms)
		}
		if l := parse(t, "without numbers", small(machine).versioned().tag(0x6ffffff0, 0).File()); !slices.Equal(l.Syms, smallSymbols()) {
			t.Errorf("%+v", l.Syms)
		}
		x := small(machine).versioned()
		x.Put(numbersAt+2, 2, 0)
		want := versionedSymbols()
		want[1].Ver, want[1].Hidden, want[1].Bind = "", false, api.Local
		if l := parse(t, "f made local", x.File()); !slices.Equal(l.Syms, want) {
			t.Errorf("%+v", l.Syms)
		}
		x.Put(numbersAt+2, 2, 3)
		fails(t, "f has what is asked for", x, api.ErrVersion)
	}
}

// P16.2: has a library versions of its own?
func TestVersions(t *testing.T) {
	for _, x := range []struct {
		what string
		x    *lib
		want bool
	}{
		{"none", small(api.Intel), false},
		{"both", small(api.Intel).versioned(), true},
		{"its own, no numbers", small(api.Intel).versioned().tag(0x6ffffff0, 0), true},
		{"asked ones, and a place of 0", small(api.Intel).versioned().tag(0x6ffffffc, 0).tag(0x6ffffff0, 0), false},
		{"a place, but none there", small(api.Intel).tag(0x6ffffffc, 1).tag(0x6ffffffd, 0), true},
		{"a place at the end of all", small(api.Intel).tag(0x6ffffffc, huge).tag(0x6ffffffd, 0), true},
	} {
		if got := image.Versions(parse(t, x.what, x.x.File())); got != x.want {
			t.Errorf("%s: %v", x.what, got)
		}
	}
	// Of any value just the place counts.
	if image.Versions(api.Lib{}) {
		t.Error("nothing has versions")
	}
	for _, at := range []uint64{1, 2, 255, 256, 1 << 31, 1 << 32, 1 << 63, huge} {
		if !image.Versions(api.Lib{Dyn: api.Dyn{Verdef: at}}) {
			t.Error(at)
		}
		if image.Versions(api.Lib{Syms: versionedSymbols(), Dyn: api.Dyn{Verdefs: at, Verneed: at, Verneeds: at, Versym: at}, Init: 1}) {
			t.Error(at)
		}
	}
}

// P16.3: bytes of the file that stand in no part and aren't headers, turned: one by one, and all.
func TestOutside(t *testing.T) {
	const by = 1024
	for _, machine := range machines() {
		for _, made := range [][]byte{whole(machine).File(), with(machine, faults()[25])} {
			b := longer(shifted(made, by), 20000)
			want, wantErr := image.Parse(b)
			inside := inParts(b)
			all := bytes.Clone(b)
			many := 0
			for i, part := range inside {
				if part || i < 64 || i >= 200 && i < 200+56*int(b[56]) {
					continue
				}
				many++
				all[i] ^= 0xff
				b[i] ^= 0xff
				if l, e := image.Parse(b); e != wantErr || !reflect.DeepEqual(l, want) {
					t.Fatalf("byte %d: %+v, %v, not %+v, %v", i, l, e, want, wantErr)
				}
				b[i] ^= 0xff
			}
			if l, e := image.Parse(all); e != wantErr || !reflect.DeepEqual(l, want) || many < 2000 {
				t.Errorf("all %d: %+v, %v, not %+v, %v", many, l, e, want, wantErr)
			}
		}
	}
}

// What is handed in isn't changed and isn't kept; what lies behind its length isn't read; two answers share nothing.
func TestMemory(t *testing.T) {
	b := whole(api.Arm).File()
	room := longer(b, len(b)+1000)
	given := room[:len(b)]
	l := parse(t, "given", given)
	if !bytes.Equal(room, longer(b, len(b)+1000)) {
		t.Error("what was handed in is another one")
	}
	again := parse(t, "given", given)
	clear(room)
	if !reflect.DeepEqual(l, again) || l.Dyn.Soname != "a.so" || l.Syms[1].Name != "f" {
		t.Errorf("%+v, not %+v", l, again)
	}
	clear(l.Heads.Loads)
	clear(l.Dyn.Needed)
	clear(l.Syms)
	clear(l.Rels)
	if third := parse(t, "again", b); !reflect.DeepEqual(again, third) {
		t.Errorf("%+v, not %+v", again, third)
	}
	// The file's last part ends with the file: one byte less, and it isn't there, whatever lies behind.
	h, _ := head.Parse(b)
	end := h.Loads[1].Off + h.Loads[1].Filesz
	parse(t, "to its end", b[:end])
	refuses(t, "less", b[:end-1], api.ErrLoad)
}
