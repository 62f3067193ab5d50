package dyn_test

import (
	"bytes"
	"debug/elf"
	"encoding/binary"
	"slices"
	"strings"
	"testing"

	"messuage/api"
	"messuage/dyn"
	"messuage/head"
	"messuage/mold"
	"messuage/rows"
)

// table: the chapter's table of tags, the one that may come more than once aside.
var table = []uint64{
	14, 29, 5, 10, 6, 11, 4, 0x6ffffef5, 7, 8, 9, 17, 18, 19, 23, 2, 20, 36, 35, 37, 0x6000000f, 0x60000010, 0x60000011, 0x60000012,
	25, 27, 26, 28, 16, 30, 0x6ffffffb, 0x6ffffff0, 0x6ffffffc, 0x6ffffffd, 0x6ffffffe, 0x6fffffff,
}

// couples: the chapter's pairs.
var couples = [][2]uint64{{5, 10}, {17, 18}, {7, 8}, {23, 2}, {36, 35}, {0x6000000f, 0x60000010}, {0x60000011, 0x60000012}, {25, 27}, {26, 28}, {0x6ffffffc, 0x6ffffffd}, {0x6ffffffe, 0x6fffffff}}

// list: the entries of a section by the chapter's words.
func list(s string) ([]dyn.Entry, api.Errno) {
	var l []dyn.Entry
	for len(l) < 128 && len(s) >= 16 {
		x := dyn.Entry{Tag: binary.LittleEndian.Uint64([]byte(s)), Value: binary.LittleEndian.Uint64([]byte(s[8:]))}
		if x.Tag == 0 {
			return l, api.OK
		}
		l, s = append(l, x), s[16:]
	}
	return nil, api.ErrTags
}

// section is a section's entries.
type section []dyn.Entry

// values: those of a tag, in order.
func (l section) values(tag uint64) []uint64 {
	var all []uint64
	for _, x := range l {
		if x.Tag == tag {
			all = append(all, x.Value)
		}
	}
	return all
}

// one: the value of a tag that is there but once; 0, if it isn't.
func (l section) one(tag uint64) uint64 { return append(l.values(tag), 0)[0] }

func (l section) has(tag uint64) bool { return len(l.values(tag)) > 0 }

func (l section) area(at, size uint64) api.Area {
	if !l.has(at) {
		return api.Area{}
	}
	return api.Area{Has: true, At: l.one(at), Size: l.one(size)}
}

// wrong: is something wrong with the tags by the chapter's words?
func (l section) wrong() bool {
	for _, tag := range table {
		if len(l.values(tag)) > 1 {
			return true
		}
	}
	for _, p := range couples {
		if l.has(p[0]) && !l.has(p[1]) || l.has(p[1]) && !l.has(p[0]) {
			return true
		}
	}
	if !l.has(5) || !l.has(6) || l.has(0x6000000f) && l.has(0x60000011) || !l.has(4) && !l.has(0x6ffffef5) {
		return true
	}
	if l.has(20) && !l.has(23) || l.has(23) && !l.has(20) || l.has(20) && l.one(20) != 7 && l.one(20) != 17 {
		return true
	}
	for _, p := range [][2]uint64{{11, 24}, {9, 24}, {19, 16}, {37, 8}} {
		if l.has(p[0]) && l.one(p[0]) != p[1] {
			return true
		}
	}
	return false
}

// says: what the section says, the names aside.
func (l section) says() api.Dyn {
	d := api.Dyn{
		Symbolic: l.has(16) || l.one(30)/2%2 == 1,
		Global:   l.one(0x6ffffffb)/2%2 == 1,
		Nodelete: l.one(0x6ffffffb)/8%2 == 1,
		Strings:  l.area(5, 10),
		Rel:      l.area(17, 18),
		Rela:     l.area(7, 8),
		Plt:      l.area(23, 2),
		Relr:     l.area(36, 35),
		Packed:   l.area(0x6000000f, 0x60000010),
		Init:     l.area(25, 27),
		Fini:     l.area(26, 28),
		PltRela:  l.one(20) == 7,
	}
	if l.has(0x60000011) {
		d.Packed, d.PackedRela = l.area(0x60000011, 0x60000012), true
	}
	for tag, to := range map[uint64]*uint64{6: &d.Symtab, 4: &d.Hash, 0x6ffffef5: &d.GnuHash, 0x6ffffff0: &d.Versym, 0x6ffffffc: &d.Verdef, 0x6ffffffd: &d.Verdefs, 0x6ffffffe: &d.Verneed, 0x6fffffff: &d.Verneeds} {
		*to = l.one(tag)
	}
	return d
}

// read: what a library's dynamic section says by the chapter's words.
func read(m *mold.Memory, h api.Heads) (api.Dyn, api.Errno) {
	none := api.Dyn{}
	bytes, ok := m.Row(h.Dynamic.Vaddr, h.Dynamic.Filesz)
	if !ok {
		return none, api.ErrDynamic
	}
	entries, e := list(bytes)
	l := section(entries)
	if e != api.OK || l.wrong() {
		return none, api.ErrTags
	}
	d := l.says()
	texts, ok := m.Row(d.Strings.At, d.Strings.Size)
	if !ok {
		return none, api.ErrStrtab
	}
	for tag, to := range map[uint64]*string{14: &d.Soname, 29: &d.Runpath} {
		if !l.has(tag) {
			continue
		}
		if *to, ok = mold.Text(texts, l.one(tag)); !ok {
			return none, api.ErrStrtab
		}
	}
	if len(l.values(1)) > 16 {
		return none, api.ErrNeeded
	}
	for _, at := range l.values(1) {
		name, ok := mold.Text(texts, at)
		if !ok {
			return none, api.ErrStrtab
		}
		if name == "" {
			return none, api.ErrNeeded
		}
		d.Needed = append(d.Needed, name)
	}
	return d, api.OK
}

// numbers is a row of numbers, and what is made of them here.
type numbers struct{ *rows.Row }

func row(seed uint64) *numbers { return &numbers{rows.New(seed)} }

// strings: any strings, and where texts begin among them.
func (r *numbers) strings() (string, []uint64) {
	s := "\x00"
	var begin []uint64
	for range 1 + r.Below(6) {
		begin = append(begin, uint64(len(s)))
		s += r.Text("a.so", "libfoo.so", "/x:/y", "!", "~", strings.Repeat("k", 64), strings.Repeat("k", 60+r.Below(5))) + "\x00"
	}
	return s, begin
}

// value: any number, small ones and those at edges more often.
func (r *numbers) value() uint64 {
	edges := []uint64{0, 1, 2, 7, 8, 16, 17, 24, 511, 512, thirdAt, textsAt, 1 << 32, 1 << 40, 1 << 63, huge - 7, huge}
	return []uint64{r.Next(), uint64(r.Below(6000)), edges[r.Below(len(edges))]}[r.Below(3)]
}

// entries: those of any right section, in any order.
func (r *numbers) entries(size int, begin []uint64) []dyn.Entry {
	some := func() uint64 { return begin[r.Below(len(begin))] }
	l := []dyn.Entry{entry(5, textsAt), entry(10, uint64(size)), entry(6, r.value())}
	for i, tag := range []uint64{4, 0x6ffffef5} {
		if which := r.Below(3); which == i || which == 2 || len(l) == 3 && i == 1 {
			l = append(l, entry(tag, r.value()))
		}
	}
	maybe := func(more ...dyn.Entry) {
		if r.Below(2) == 0 {
			l = append(l, more...)
		}
	}
	for range r.Below(5) * r.Below(5) {
		l = append(l, entry(1, some()))
	}
	maybe(entry(14, some()))
	maybe(entry(29, []uint64{0, some()}[r.Below(2)]))
	for tag, n := range []uint64{9: 24, 11: 24, 19: 16, 37: 8} {
		if n != 0 {
			maybe(entry(uint64(tag), n))
		}
	}
	for _, p := range couples[1:] {
		if p[0] != 23 && p[0] != 0x60000011 {
			maybe(entry(p[0], r.value()), entry(p[1], r.value()))
		}
	}
	if !section(l).has(0x6000000f) {
		maybe(entry(0x60000011, r.value()), entry(0x60000012, r.value()))
	}
	maybe(entry(23, r.value()), entry(2, r.value()), entry(20, 7+10*uint64(r.Below(2))))
	maybe(entry(16, r.value()))
	maybe(entry(30, r.value()))
	maybe(entry(0x6ffffffb, r.value()))
	maybe(entry(0x6ffffff0, r.value()))
	for range r.Below(3) {
		l = append(l, entry([]uint64{3, 12, 13, 15, 21, 24, 32, 38, 0x6ffffff9, 0x70000001, huge}[r.Below(11)], r.value()))
	}
	for i := range l {
		j := r.Below(i + 1)
		l[i], l[j] = l[j], l[i]
	}
	return l
}

// spoil: the entries with one of them turned, lost, doubled, or with one more.
func (r *numbers) spoil(l []dyn.Entry, size int) []dyn.Entry {
	if len(l) == 0 {
		return l
	}
	i := r.Below(len(l))
	x := l[i]
	switch r.Below(8) {
	case 0, 1:
		return slices.Delete(l, i, i+1)
	case 2:
		return slices.Insert(l, r.Below(len(l)+1), x)
	case 3:
		l[i].Value = r.value()
	case 4:
		near := []uint64{x.Value + 1, x.Value - 1, x.Value + 8, 0, uint64(size), uint64(size) - 1}
		l[i].Value = near[r.Below(len(near))]
	case 5:
		l[i].Tag = append(table, 0, 1, 2, 3)[r.Below(len(table)+4)]
	case 6:
		return slices.Insert(l, i, entry(append(table, 1)[r.Below(len(table)+1)], r.value()))
	case 7:
		// Names that may be wrong: within another one, or right at its end.
		tag := []uint64{1, 1, 14, 29}[r.Below(4)]
		return append(without(l, tag), entry(tag, uint64(r.Below(size+2))))
	}
	return l
}

// library: any library, right or not.
func (r *numbers) library() []byte {
	s, begin := r.strings()
	l := r.entries(len(s), begin)
	for range r.Below(3) {
		l = r.spoil(l, len(s))
	}
	if r.Below(3) == 0 {
		b := []byte(s)
		b[r.Below(len(b))] = []byte{0, 32, 33, 126, 127, 128, 255, 'x'}[r.Below(8)]
		s = string(b)
	}
	b := ended(l...)
	switch r.Below(12) {
	case 0:
		b = append(b, bare(l...)...)
	case 1:
		b = b[:1+r.Below(len(b))]
	case 2:
		l = append(l, slices.Repeat([]dyn.Entry{entry(99, 1)}, 122-len(l)+r.Below(10))...)
		b = ended(l...)
	case 3:
		l = append(l, slices.Repeat([]dyn.Entry{entry(1, begin[0])}, max(0, 14-len(section(l).values(1))+r.Below(5)))...)
		b = ended(l...)
	}
	return file(b, s)
}

// P9.1 to P9.3: any libraries, right ones and spoilt ones, held against the model.
func TestModel(t *testing.T) {
	met := map[api.Errno]int{}
	for seed := range uint64(15000) {
		b := row(seed).library()
		h, e := head.Parse(b)
		if e != api.OK {
			t.Fatalf("row %d: %v", seed, e)
		}
		m := mold.Read(b, h.Loads)
		want, wantErr := read(m, h)
		d, e := dyn.Parse(b, h)
		if e != wantErr || !same(d, want) {
			t.Fatalf("row %d:\n%+v, %v, not\n%+v, %v", seed, d, e, want, wantErr)
		}
		met[e]++
		s, _ := m.Row(h.Dynamic.Vaddr, h.Dynamic.Filesz)
		wantList, wantErr := list(s)
		if l, e := dyn.Entries([]byte(s)); e != wantErr || !slices.Equal(l, wantList) {
			t.Fatalf("row %d: Entries: %v, %v, not %v, %v", seed, l, e, wantList, wantErr)
		}
		if e != api.OK {
			d = api.Dyn{Strings: api.Area{Has: true, At: row(seed).value(), Size: uint64(seed % 300)}}
		}
		wantStrings, wantOK := m.Row(d.Strings.At, d.Strings.Size)
		if got, ok := dyn.Strings(b, h, d); ok != wantOK || string(got) != wantStrings {
			t.Fatalf("row %d: Strings of %v: %q, %v, not %q, %v", seed, d.Strings, got, ok, wantStrings, wantOK)
		}
	}
	for e, many := range map[api.Errno]int{api.OK: 3000, api.ErrTags: 3000, api.ErrStrtab: 1000, api.ErrNeeded: 300} {
		if met[e] < many {
			t.Errorf("%v was met just %d times", e, met[e])
		}
	}
}

// P9.2: right libraries, held against another reader of ELF files.
func TestOtherReader(t *testing.T) {
	for seed := range uint64(2000) {
		r := row(seed)
		s, begin := r.strings()
		l := r.entries(len(s), begin)
		if len(section(l).values(1)) > 16 {
			continue
		}
		b := file(ended(l...), s)
		h := heads(t, b)
		d, e := dyn.Parse(b, h)
		if e != api.OK {
			t.Fatalf("row %d: %v", seed, e)
		}
		listed := mold.Listed(b, mold.Section{Kind: 6, Link: 2, Off: 1040, Size: h.Dynamic.Filesz}, mold.Section{Kind: 3, Off: 528, Size: uint64(len(s))})
		f, err := elf.NewFile(bytes.NewReader(listed))
		if err != nil {
			t.Fatal(err)
		}
		for tag, got := range map[elf.DynTag][]string{elf.DT_NEEDED: d.Needed, elf.DT_SONAME: {d.Soname}, elf.DT_RUNPATH: {d.Runpath}} {
			want, err := f.DynString(tag)
			if err != nil {
				t.Fatal(err)
			}
			if len(want) == 0 && tag != elf.DT_NEEDED {
				want = []string{""}
			}
			if !slices.Equal(got, want) {
				t.Errorf("row %d: %v: %q, not %q", seed, tag, got, want)
			}
		}
		for tag, got := range map[elf.DynTag]uint64{
			elf.DT_STRTAB: d.Strings.At, elf.DT_STRSZ: d.Strings.Size, elf.DT_SYMTAB: d.Symtab, elf.DT_HASH: d.Hash, elf.DT_GNU_HASH: d.GnuHash,
			elf.DT_RELA: d.Rela.At, elf.DT_RELASZ: d.Rela.Size, elf.DT_REL: d.Rel.At, elf.DT_RELSZ: d.Rel.Size,
			elf.DT_JMPREL: d.Plt.At, elf.DT_PLTRELSZ: d.Plt.Size, elf.DT_INIT_ARRAY: d.Init.At, elf.DT_INIT_ARRAYSZ: d.Init.Size,
			elf.DT_FINI_ARRAY: d.Fini.At, elf.DT_FINI_ARRAYSZ: d.Fini.Size, elf.DT_VERSYM: d.Versym,
			elf.DT_VERDEF: d.Verdef, elf.DT_VERDEFNUM: d.Verdefs, elf.DT_VERNEED: d.Verneed, elf.DT_VERNEEDNUM: d.Verneeds,
		} {
			want, err := f.DynValue(tag)
			if err != nil || got != append(want, 0)[0] {
				t.Errorf("row %d: %v: %d, not %d, %v", seed, tag, got, want, err)
			}
		}
	}
}

// P1: of any bytes and any headers each call ends, and says nothing beside an error.
func TestAnything(t *testing.T) {
	for seed := range uint64(20000) {
		r := row(seed)
		b := r.library()
		if r.Below(2) == 0 {
			for i := range b {
				b[i] = byte(r.Next() >> 20 % 3 * uint64(r.Below(10)/9))
			}
		}
		var h api.Heads
		for range r.Below(4) {
			h.Loads = append(h.Loads, api.Phdr{Off: r.value(), Vaddr: r.value(), Filesz: r.value(), Memsz: r.value()})
		}
		h.Dynamic = api.Phdr{Off: r.value(), Vaddr: r.value(), Filesz: r.value(), Memsz: r.value()}
		if d, e := dyn.Parse(b, h); e != api.OK && !same(d, api.Dyn{}) {
			t.Fatalf("row %d: %v, %v", seed, d, e)
		}
		if l, e := dyn.Entries(b[r.Below(len(b)):]); e != api.OK && len(l) != 0 || len(l) > 127 {
			t.Fatalf("row %d: %v, %v", seed, l, e)
		}
		d := api.Dyn{Strings: api.Area{Has: r.Below(2) == 0, At: r.value(), Size: r.value()}}
		if s, ok := dyn.Strings(b, h, d); !ok && len(s) != 0 || ok && uint64(len(s)) != d.Strings.Size {
			t.Fatalf("row %d: %d, %v", seed, len(s), ok)
		}
	}
}
