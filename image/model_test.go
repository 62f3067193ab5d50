package image_test

import (
	"reflect"
	"slices"
	"testing"

	"messuage/api"
	"messuage/aps"
	"messuage/dyn"
	"messuage/head"
	"messuage/image"
	"messuage/mold"
	"messuage/relr"
	"messuage/rels"
	"messuage/rows"
	"messuage/syms"
	"messuage/vers"
)

// view is a library's memory, byte by byte: what of it stands in the file, and of which part a byte is at all, counted from 1; 0: of none.
type view struct {
	*mold.Memory
	loads []api.Phdr
	part  [spanEnd]int
}

// look: that of a file.
func look(b []byte, loads []api.Phdr) *view {
	v := &view{Memory: mold.Read(b, loads), loads: loads}
	for i, p := range loads {
		for n := range p.Memsz {
			v.part[p.Vaddr+n] = i + 1
		}
	}
	return v
}

// inside: are so many bytes all of one part?
func (v *view) inside(at, size uint64) bool {
	if size == 0 {
		return slices.ContainsFunc(v.loads, func(p api.Phdr) bool { return at >= p.Vaddr && at <= p.Vaddr+p.Memsz })
	}
	for i := range size {
		// Behind a byte that isn't there none is asked for: at and i never go round.
		if at >= spanEnd || at+i >= spanEnd || v.part[at+i] == 0 || v.part[at+i] != v.part[at] {
			return false
		}
	}
	return true
}

// list: the relocations of an area, if it is there; false: they may not be.
func (v *view) list(a api.Area, decode func(b []byte) ([]api.Rel, api.Errno)) ([]api.Rel, bool) {
	if !a.Has {
		return nil, true
	}
	row, ok := v.Row(a.At, a.Size)
	if !ok {
		return nil, false
	}
	l, e := decode([]byte(row))
	return l, e == api.OK
}

// told: all relocations of a library by the chapter's words, or their error.
func (v *view) told(machine uint16, d api.Dyn) ([]api.Rel, api.Errno) {
	groups, ok := v.list(d.Packed, func(b []byte) ([]api.Rel, api.Errno) { return aps.Decode(b, d.PackedRela) })
	if !ok {
		return nil, api.ErrAps
	}
	places, ok := v.list(d.Relr, func(b []byte) ([]api.Rel, api.Errno) {
		var l []api.Rel
		places, e := relr.Decode(b)
		for _, at := range places {
			l = append(l, api.Rel{At: at, Type: relative(machine)})
		}
		return l, e
	})
	if !ok {
		return nil, api.ErrRelr
	}
	all := append(groups, places...)
	for _, one := range []struct {
		area api.Area
		with bool
	}{{d.Rel, false}, {d.Rela, true}, {d.Plt, d.PltRela}} {
		l, ok := v.list(one.area, func(b []byte) ([]api.Rel, api.Errno) { return rels.Decode(b, one.with) })
		if !ok {
			return nil, api.ErrRels
		}
		all = append(all, l...)
	}
	if len(all) > 512 {
		return nil, api.ErrRels
	}
	return all, api.OK
}

// wrong: what is wrong with relocations by the chapter's words; the bytes of each are laid down one by one.
func (v *view) wrong(machine uint16, symbols int, l []api.Rel) api.Errno {
	var filled [spanEnd]int
	for _, r := range l {
		switch {
		case r.Type == 0:
		case !slices.Contains(kinds(machine), r.Type):
			return api.ErrRelType
		case !v.inside(r.At, 8):
			return api.ErrRelSlot
		case int64(r.Sym) >= int64(symbols):
			return api.ErrRelIndex
		default:
			for i := range uint64(8) {
				filled[r.At+i]++
			}
		}
	}
	if slices.Max(filled[:]) > 1 {
		return api.ErrRelSlot
	}
	return api.OK
}

// model: what a file says by the chapter's words, which leave the rest to the layers below.
func model(b []byte) (api.Lib, api.Errno) {
	if len(b) > 1<<18 {
		return api.Lib{}, api.ErrBig
	}
	h, e := head.Parse(b)
	if e != api.OK {
		return api.Lib{}, e
	}
	d, e := dyn.Parse(b, h)
	if e != api.OK {
		return api.Lib{}, e
	}
	s, e := syms.Parse(b, h, d)
	if e != api.OK {
		return api.Lib{}, e
	}
	if s, e = vers.Put(b, h, d, s); e != api.OK {
		return api.Lib{}, e
	}
	v := look(b, h.Loads)
	for _, a := range []api.Area{d.Init, d.Fini} {
		if a.Has && (a.Size%8 != 0 || !v.inside(a.At, a.Size)) {
			return api.Lib{}, api.ErrTags
		}
	}
	l, e := v.told(h.Machine, d)
	if e != api.OK {
		return api.Lib{}, e
	}
	if e := v.wrong(h.Machine, len(s), l); e != api.OK {
		return api.Lib{}, e
	}
	return api.Lib{Heads: h, Dyn: d, Syms: s, Rels: l, Init: int(d.Init.Size / 8), Fini: int(d.Fini.Size / 8)}, api.OK
}

// agrees: a file's answer is the model's; the error.
func agrees(t *testing.T, seed uint64, b []byte) api.Errno {
	t.Helper()
	want, wantErr := model(b)
	got, e := image.Parse(b)
	if e != wantErr || !reflect.DeepEqual(got, want) {
		t.Fatalf("row %d:\n%+v, %v, not\n%+v, %v", seed, got, e, want, wantErr)
	}
	return e
}

// row is a row of numbers, and what is made of them here.
type row struct{ *rows.Row }

// one: any of some numbers.
func (r row) one(l ...uint64) uint64 { return l[r.Below(len(l))] }

// value: any number, those at edges more often.
func (r row) value() uint64 {
	edge := r.one(0, secondAt, listsAt, dataAt, noughtsAt, lastFile, lastEnd, endAt, spanEnd, 1<<32, 1<<63, 0)
	return r.one(r.Next(), uint64(r.Below(spanEnd)), edge+uint64(r.Below(25)), edge-uint64(r.Below(25)))
}

// any: relocations that a list of this form can tell, right ones but that a place may lie across two parts, or twice.
func (r row) any(machine uint16, f form, free *[]uint64) []api.Rel {
	many := r.Below(7)
	if r.Below(80) == 0 {
		many = 100 + r.Below(60)
	}
	var l []api.Rel
	for range many {
		i := r.Below(len(*free))
		x := api.Rel{At: (*free)[i], Type: kinds(machine)[r.Below(4)], Sym: uint32(r.Below(symbols)), Has: f.with}
		if r.Below(200) > 0 {
			*free = slices.Delete(*free, i, i+1)
		}
		if f.with {
			x.Add = int64(r.Next())
		}
		if r.Below(12) == 0 {
			x.Type, x.At, x.Sym = 0, r.value(), uint32(r.value())
		}
		l = append(l, x)
	}
	return l
}

// bits: the list of the places that relocations have, if there can be one, as rows of bits.
func (r row) bits(l []api.Rel) []byte {
	var places []uint64
	for _, x := range l {
		if x.Type != 0 {
			places = append(places, x.At)
		}
	}
	if r.Below(3) == 0 {
		return words(places...)
	}
	slices.Sort(places)
	b, e := relr.Encode(places)
	if e != api.OK { // a place is there twice
		return words(places...)
	}
	return b
}

// right: any library that may be, but for its relocations' places.
func (r row) right() *lib {
	x := small(machines()[r.Below(2)])
	if r.Below(2) == 0 {
		x.versioned()
	}
	for _, list := range lists() {
		if r.Below(2) == 0 {
			x.tag(list[0], uint64(r.Below(secondAt-200))+r.one(0, dataAt, endAt-secondAt)).tag(list[1], 8*uint64(r.Below(7)))
			x.Tags[list[0]] = min(x.Tags[list[0]], spanEnd-48)
		}
	}
	var free []uint64
	for at := r.one(0, 0, 0, 2); at < spanEnd-8; at += 8 {
		if at < lastEnd-8 && at/256 == (at+7)/256 || at >= endAt {
			free = append(free, at)
		}
	}
	all := forms()
	for _, f := range []form{all[packed+r.Below(2)], all[bits], all[rel], all[rela], all[plt+r.Below(2)]} {
		if r.Below(2) == 0 {
			continue
		}
		l := r.any(x.Machine, f, &free)
		if f.wrong == api.ErrRelr {
			x.tells(f, r.bits(l))
		} else {
			x.moved(f, l...)
		}
		x.free -= uint64(r.Below(3))
	}
	return x
}

// here: those of some tags that the library has.
func (x *lib) here(tags ...uint64) []uint64 {
	return slices.DeleteFunc(tags, func(tag uint64) bool { _, ok := x.Tags[tag]; return !ok })
}

// spoil: the library with something turned that may matter.
func (r row) spoil(x *lib) {
	places := x.here(0x6000000f, 0x60000011, 36, 17, 7, 23)
	tags := x.here(0x6000000f, 0x60000010, 0x60000011, 0x60000012, 36, 35, 17, 18, 7, 8, 23, 2, 25, 26, 27, 28)
	kind := r.Below(10)
	switch {
	case kind < 4 && len(places) > 0: // a list's bytes
		at := x.Tags[places[r.Below(len(places))]]
		if at > dataAt {
			return
		}
		at += 8 * uint64(r.Below(12))
		switch r.Below(4) {
		case 0:
			x.Put(at, 8, r.value())
		case 1:
			x.Put(at, 4, r.one(0, 1, 2, 6, 7, 8, 9, 257, 1025, 1027, 1028, r.Next()))
		case 2:
			x.Put(at+4, 4, r.one(0, 1, 3, 4, 5, 255, 1<<31, 1<<32-1, r.Next()))
		case 3:
			x.Put(at, 1, x.Get(at, 1)+r.one(1, 2, 7, 8, 255, 249))
		}
	case kind < 7 && len(tags) > 0: // where a list is, or its size
		tag := tags[r.Below(len(tags))]
		n := x.Tags[tag]
		x.Tags[tag] = r.one(n+1, n-1, n+8, n-8, n+16, n-16, n+24, n-24, n+48, 0, r.value(), r.value())
	case kind == 7: // a part that is shorter
		p := &x.Loads[1+r.Below(5)]
		p.Filesz -= uint64(r.Below(int(min(p.Filesz, 60))))
		p.Memsz -= uint64(r.Below(int(p.Memsz-p.Filesz) + 1))
	case kind == 8 && r.Below(3) == 0:
		x.Machine = api.Intel + api.Arm - x.Machine
	case kind == 9 && len(x.here(20)) > 0:
		x.Tags[20] = 24 - x.Tags[20]
	default:
		tag := r.one(1, 14, 5, 6, 4, 10, 0x6ffffff0)
		if r.Below(3) == 0 && len(x.here(tag)) > 0 {
			x.Tags[tag] += r.one(1, 2, 24, 1<<63, ^uint64(0))
		}
	}
}

// cut: the library with one of its parts in two.
func (r row) cut(x *lib) {
	i := 2 + r.Below(2)
	rest := x.Loads[i]
	size := 256 * uint64(1+r.Below(int(rest.Memsz/256)-1))
	if i == 2 && r.Below(2) == 0 {
		size = rest.Memsz - 256
	}
	x.Loads = slices.Insert(x.Loads, i+1, rest)
	x.Loads[i].Filesz, x.Loads[i].Memsz = size, size
	x.Loads[i+1].Vaddr, x.Loads[i+1].Filesz, x.Loads[i+1].Memsz = rest.Vaddr+size, rest.Filesz-size, rest.Memsz-size
}

// P16.1: any libraries, right ones and spoilt ones, held against the model.
func TestModel(t *testing.T) {
	met := map[api.Errno]int{}
	for seed := range uint64(12000) {
		r := row{rows.New(seed)}
		x := r.right()
		if r.Below(4) == 0 {
			r.cut(x)
		}
		for range r.Below(3) {
			r.spoil(x)
		}
		met[agrees(t, seed, x.File())]++
	}
	for e, least := range map[api.Errno]int{
		api.OK: 4000, api.ErrTags: 300, api.ErrAps: 300, api.ErrRelr: 150, api.ErrRels: 600, api.ErrRelType: 300, api.ErrRelSlot: 300, api.ErrRelIndex: 80,
		api.ErrStrtab: 30, api.ErrNeeded: 20, api.ErrSymtab: 30, api.ErrHash: 10, api.ErrVersion: 10,
	} {
		if met[e] < least {
			t.Errorf("error %d: %d of %v", e, met[e], met)
		}
	}
}

// P16.1: a whole library with one byte turned, wherever one isn't 0.
func TestTurned(t *testing.T) {
	met := map[api.Errno]int{}
	for _, machine := range machines() {
		b := whole(machine).File()
		for i := range b {
			near := b[max(i-8, 0):min(i+8, len(b))]
			if !slices.ContainsFunc(near, func(n byte) bool { return n != 0 }) {
				continue
			}
			was := b[i]
			for _, n := range []byte{was + 1, was - 1, was ^ 0x80} {
				b[i] = n
				met[agrees(t, uint64(i), b)]++
			}
			b[i] = was
		}
	}
	if len(met) < 20 || met[api.OK] < 500 {
		t.Error(len(met), met)
	}
}

// P1: any bytes: Parse ends, and says nothing beside an error.
func TestAnything(t *testing.T) {
	for seed := range uint64(3000) {
		r := row{rows.New(seed)}
		b := r.right().File()
		switch r.Below(3) {
		case 0:
			b = b[:r.Below(len(b)+1)]
		case 1:
			for range 1 + r.Below(300) {
				b[64+r.Below(len(b)-64)] = byte(r.Next() >> 20)
			}
		case 2:
			for i := 64 + r.Below(600); i < len(b); i++ {
				b[i] = byte(r.Next() >> 20)
			}
		}
		if l, e := image.Parse(b); e != api.OK && !reflect.DeepEqual(l, api.Lib{}) {
			t.Fatalf("row %d: %+v, %v", seed, l, e)
		}
		agrees(t, seed, b)
	}
}
