package vers_test

import (
	"bytes"
	"debug/elf"
	"encoding/binary"
	"slices"
	"strings"
	"testing"

	"messuage/api"
	"messuage/dyn"
	"messuage/head"
	"messuage/mold"
	"messuage/rows"
	"messuage/vers"
)

// The records by the chapter's words.
type (
	ownRecord struct {
		Kind, Flags, Number, Names uint16
		Sum, First, Next           uint32
	}
	nameRecord struct{ Text, More uint32 }
	libRecord  struct {
		Kind, Many        uint16
		Name, First, Next uint32
	}
	askRecord struct {
		Sum           uint32
		Flags, Number uint16
		Name, Next    uint32
	}
)

// model is a library by the words of chapters 8, 9 and 11.
type model struct {
	*mold.Memory
	d     api.Dyn
	texts string
}

// at: the record at a place; false: it isn't there.
func at[T any](m model, place uint64) (T, bool) {
	var x T
	row, ok := m.Row(place, uint64(binary.Size(x)))
	if !ok {
		return x, false
	}
	if err := binary.Read(strings.NewReader(row), binary.LittleEndian, &x); err != nil {
		panic(err)
	}
	return x, true
}

// placed is a record, and where it is.
type placed[T any] struct {
	place uint64
	T     T
}

// all: the records of a row; false: one isn't there.
func all[T any](m model, place uint64, many int, next func(x T) uint32) ([]placed[T], bool) {
	if many == 0 {
		return nil, true
	}
	x, ok := at[T](m, place)
	if !ok {
		return nil, false
	}
	l := []placed[T]{{place, x}}
	if next(x) == 0 {
		return l, true
	}
	rest, ok := all(m, place+uint64(next(x)), many-1, next)
	return append(l, rest...), ok
}

// text: one that isn't empty.
func (m model) text(place uint32) (string, bool) {
	s, ok := mold.Text(m.texts, uint64(place))
	return s, ok && s != ""
}

// own: the versions that the library has.
func (m model) own() ([]vers.Version, bool) {
	if m.d.Verdef == 0 {
		return nil, true
	}
	records, ok := all(m, m.d.Verdef, int(m.d.Verdefs), func(x ownRecord) uint32 { return x.Next })
	var l []vers.Version
	for _, x := range records {
		name, there := at[nameRecord](m, x.place+uint64(x.T.First))
		s, named := m.text(name.Text)
		ok = ok && there && named && x.T.Kind == 1 && x.T.Names > 0
		if x.T.Flags%2 == 0 {
			l = append(l, vers.Version{Number: x.T.Number, Name: s})
		}
	}
	return l, ok
}

// asked: the versions that it asks for.
func (m model) asked() ([]vers.Version, bool) {
	if m.d.Verneed == 0 {
		return nil, true
	}
	records, ok := all(m, m.d.Verneed, int(m.d.Verneeds), func(x libRecord) uint32 { return x.Next })
	var l []vers.Version
	for _, x := range records {
		from, named := m.text(x.T.Name)
		asks, there := all(m, x.place+uint64(x.T.First), int(x.T.Many), func(x askRecord) uint32 { return x.Next })
		ok = ok && named && there && x.T.Kind == 1
		for _, a := range asks {
			s, named := m.text(a.T.Name)
			ok = ok && named
			l = append(l, vers.Version{Number: a.T.Number, Name: s, From: from})
		}
	}
	return l, ok
}

// list: all versions; false: they may not be.
func (m model) list() ([]vers.Version, bool) {
	if m.d.Verdefs > 33 || m.d.Verneeds > 32 {
		return nil, false
	}
	l, ok := m.own()
	asked, may := m.asked()
	l = append(l, asked...)
	var numbers []uint16
	for _, v := range l {
		numbers = append(numbers, v.Number)
		may = may && v.Number >= 2 && v.Number <= 32767
	}
	slices.Sort(numbers)
	if !ok || !may || len(l) > 32 || len(slices.Compact(numbers)) < len(l) {
		return nil, false
	}
	return l, true
}

// put: what becomes of symbols; false: they may not be.
func (m model) put(l []api.Sym) ([]api.Sym, bool) {
	versions, ok := m.list()
	if !ok {
		return nil, false
	}
	if m.d.Versym == 0 {
		return l, true
	}
	numbers, ok := m.Row(m.d.Versym, 2*uint64(len(l)))
	if !ok {
		return nil, false
	}
	var put []api.Sym
	for i, s := range l {
		n := int(numbers[2*i]) + 256*int(numbers[2*i+1])
		version := n % 32768
		named := slices.IndexFunc(versions, func(v vers.Version) bool {
			return int(v.Number) == version && (s.Defined && v.From == "" || !s.Defined && v.From != "")
		})
		switch {
		case i == 0, version == 0 && !s.Defined:
		case version == 0:
			s.Bind = 0
		case version == 1:
			s.Ver = ""
		case named < 0:
			return nil, false
		default:
			s.Ver = versions[named].Name
		}
		if i > 0 && version > 0 && n >= 32768 && s.Defined {
			s.Hidden = true
		}
		put = append(put, s)
	}
	return put, true
}

// row is a row of numbers, and what is made of them here.
type row struct{ *rows.Row }

// one: any of some numbers.
func (r row) one(l ...uint64) uint64 { return l[r.Below(len(l))] }

// value: any number, small ones and those at edges more often.
func (r row) value() uint64 {
	return []uint64{r.Next(), uint64(r.Below(300)), r.one(0, 1, 2, 255, 256, 257, thirdEnd-16, thirdEnd, spanEnd, 1<<32-1, 1<<32, 1<<63, huge-7, huge)}[r.Below(3)]
}

// many: how many of something there are: a few, or about as many as there may be.
func (r row) many() int {
	if r.Below(60) == 0 {
		return 29 + r.Below(5)
	}
	return r.Below(4)
}

// right: any library that may be, but that it may have a version too many; its numbers are no two alike.
func (r row) right() *lib {
	taken := []int{1}
	number := func() uint16 {
		n := 2 + r.Below([]int{60, 32766}[r.Below(2)])
		for slices.Contains(taken, n) {
			n = 2 + r.Below(32766)
		}
		taken = append(taken, n)
		return uint16(n)
	}
	name := func() string { return r.Text("a", "b", "V1", "V2", "LIBC", "~!", "libx.so") }
	var l []own
	for range r.many() {
		l = append(l, own{uint16(r.one(0, 0, 2, 4, 0xfffe)), number(), name()})
	}
	if r.Below(2) == 0 {
		l = append([]own{{uint16(r.one(1, 3, 0xffff)), 1, name()}}, l...)
	}
	var m []from
	for range r.many() {
		one := from{name: name()}
		for range min(r.Below(4), 1+r.many()) {
			one.asks = append(one.asks, ask{number(), name()})
		}
		m = append(m, one)
	}
	return write(l, m...)
}

// few: any symbols, some of which have a version already; and the numbers of versions that they may have, as the library's records say them.
func (r row) few(x *lib) ([]api.Sym, []uint16) {
	var l []api.Sym
	var numbers []uint16
	for range r.Below(9) {
		s := api.Sym{Name: r.Text("", "f", "g"), Bind: r.Below(3), Defined: r.Below(2) == 0, Value: r.value()}
		if r.Below(6) == 0 {
			s.Ver, s.Hidden = r.Text("", "old"), r.Below(2) == 0
		}
		n := r.one(0, 1, 1, 1)
		if s.Defined && len(x.defs) > 1 && r.Below(3) > 0 {
			n = x.Get(x.defs[1+r.Below(len(x.defs)-1)]+4, 2)
		}
		if !s.Defined && len(x.asks) > 0 && r.Below(3) > 0 {
			n = x.Get(x.asks[r.Below(len(x.asks))]+6, 2)
		}
		l, numbers = append(l, s), append(numbers, uint16(n|r.one(0, 0, 1<<15)))
	}
	return l, numbers
}

// fields: where the fields of the library's records stand that are looked at.
func (x *lib) fields() (two, four []uint64) {
	for i, at := range x.defs {
		two = append(two, at, at+2, at+4, at+6)
		four = append(four, at+ownFirst, at+ownNext, x.names[i])
	}
	for _, at := range x.needs {
		two = append(two, at, at+2)
		four = append(four, at+4, at+libFirst, at+libNext)
	}
	for _, at := range x.asks {
		two = append(two, at+6)
		four = append(four, at+8, at+askNext)
	}
	return two, four
}

// spoil: the library with something turned that may matter.
func (r row) spoil(x *lib) {
	two, four := x.fields()
	switch r.Below(7) {
	case 0, 1:
		if len(two) > 0 {
			at := two[r.Below(len(two))]
			n := x.Get(at, 2)
			x.two(at, r.one(0, 1, 2, 3, n+1, n-1, n^1<<15, n^1<<r.Below(16), 1<<15-1, r.value()))
		}
	case 2, 3:
		if len(four) > 0 {
			at := four[r.Below(len(four))]
			n := x.Get(at, 4)
			x.four(at, r.one(0, 1, n+1, n-1, n+8, n+16, n-16, 2*n, n+28, n+uint64(r.Below(20)), uint64(r.Below(100)), r.value()))
		}
	case 4:
		x.Image[stringsAt+r.Below(40)] = byte(r.one(0, 0, 32, 33, 126, 127, 128, 255, 'x'))
	case 5:
		tag := r.one(verdefTag, verdefsTag, verneedTag, verneedsTag, versymTag)
		value := x.Tags[tag]
		x.Tags[tag] = r.one(0, value+1, value-1, value+28, value+16, value+2, 32, 33, 34, r.value())
	case 6:
		x.two(versymAt+2*uint64(r.Below(9)), r.one(0, 1, 2, 3, uint64(r.Below(1<<16))))
	}
}

// shift: the library with a part cut in two, or shorter in the file, so that a record, the numbers or the strings may be lost, or lie in both.
func (r row) shift(x *lib) {
	cut := func(part int, at uint64) {
		rest := x.Loads[part]
		x.Loads = slices.Insert(x.Loads, part+1, rest)
		x.Loads[part].Filesz, x.Loads[part].Memsz = at-rest.Vaddr, at-rest.Vaddr
		x.Loads[part+1].Vaddr, x.Loads[part+1].Filesz, x.Loads[part+1].Memsz = at, rest.Filesz-(at-rest.Vaddr), rest.Memsz-(at-rest.Vaddr)
	}
	switch r.Below(6) {
	case 0:
		cut(1, secondAt+256)
	case 1:
		cut(2, thirdAt+256)
	case 2:
		x.Loads[1].Filesz = uint64(1 + r.Below(200))
	case 3:
		x.Loads[2].Filesz = thirdEnd - thirdAt - uint64(r.Below(thirdEnd-stringsAt))
	case 4: // the numbers at the end of a part's bytes
		end := r.one(secondAt, secondEnd, thirdEnd)
		to := end - uint64(r.Below(24))
		x.Move(versymAt, to, 18)
		x.Tags[versymTag] = to
	case 5: // the strings end where the last text may
		x.Tags[10] -= min(x.Tags[10], uint64(r.Below(3)))
	}
}

// P11.1, P11.2: any libraries, right ones and spoilt ones, and any symbols, held against the model.
func TestModel(t *testing.T) {
	met := map[api.Errno]int{}
	putMet := map[api.Errno]int{}
	for seed := range uint64(20000) {
		r := row{rows.New(seed)}
		x := r.right()
		l, numbers := r.few(x)
		x.numbers(numbers...)
		if r.Below(3) == 0 {
			r.shift(x)
		}
		for range r.Below(3) {
			r.spoil(x)
		}
		b := x.File()
		h, e := head.Parse(b)
		if e != api.OK {
			t.Fatalf("row %d: %v", seed, e)
		}
		d, e := dyn.Parse(b, h)
		if e != api.OK { // the strings may have been lost
			met[e]++
			continue
		}
		memory := mold.Read(b, h.Loads)
		texts, _ := memory.Row(d.Strings.At, d.Strings.Size)
		m := model{memory, d, texts}
		want, may := m.list()
		got, e := vers.List(b, h, d)
		if e != errOf(may) || !slices.Equal(got, want) {
			t.Fatalf("row %d:\n%+v, %v, not\n%+v, %v", seed, got, e, want, may)
		}
		met[e]++
		wantPut, may := m.put(l)
		gotPut, e := vers.Put(b, h, d, l)
		if e != errOf(may) || !slices.Equal(gotPut, wantPut) {
			t.Fatalf("row %d:\n%+v, %v, not\n%+v, %v", seed, gotPut, e, wantPut, may)
		}
		putMet[e]++
	}
	if met[api.OK] < 8000 || met[api.ErrVersion] < 4000 || met[api.ErrStrtab] > 1000 || putMet[api.OK] < 5000 || putMet[api.ErrVersion] < met[api.ErrVersion]+1000 {
		t.Error(met, putMet)
	}
}

// errOf: the error of what may be, or may not.
func errOf(may bool) api.Errno {
	if may {
		return api.OK
	}
	return api.ErrVersion
}

// P11.1, P11.2: right libraries say what another reader of ELF files has.
func TestOtherReader(t *testing.T) {
	read := 0
	for seed := range uint64(3000) {
		r := row{rows.New(seed)}
		x := r.right()
		l, numbers := r.few(x)
		x.numbers(numbers...)
		var records []sym
		for i, s := range l {
			l[i].Name, l[i].Ver, l[i].Hidden, l[i].Value = "f", "", false, 8
			records = append(records, sym{"f", byte(16 * s.Bind), uint16(r.Below(2)), 8})
			l[i].Defined = records[i].where != 0
		}
		if len(l) < 2 {
			continue
		}
		x.symbols(records[1:])
		b := x.File()
		h, d := layers(t, b)
		versions, e := vers.List(b, h, d)
		if e != api.OK { // there may be too many
			continue
		}
		f := other(t, b, h, d, len(l))
		if said := otherVersions(t, f); !slices.Equal(versions, said) {
			t.Fatalf("row %d:\n%+v, not\n%+v", seed, versions, said)
		}
		said, err := f.DynamicSymbols()
		if err != nil || len(said) != len(l)-1 {
			t.Fatalf("row %d: %v, %v", seed, said, err)
		}
		put, e := vers.Put(b, h, d, l)
		want := []api.Sym{l[0]}
		for i, s := range said {
			one := l[i+1]
			asked := s.Library != ""
			if s.VersionIndex.Index() > 1 && asked == one.Defined || !s.HasVersion { // the other reader takes those of either kind
				want = nil
				break
			}
			one.Ver = s.Version
			one.Hidden = one.Defined && s.VersionIndex.IsHidden() && s.VersionIndex.Index() != 0
			if one.Defined && s.VersionIndex.Index() == 0 {
				one.Bind = 0
			}
			want = append(want, one)
		}
		if e != errOf(want != nil) || !slices.Equal(put, want) {
			t.Fatalf("row %d:\n%+v, %v, not\n%+v", seed, put, e, want)
		}
		if e == api.OK {
			read++
		}
	}
	if read < 300 {
		t.Error(read)
	}
}

// other: the file as the other reader has it, which asks for sections.
func other(t *testing.T, b []byte, h api.Heads, d api.Dyn, symbols int) *elf.File {
	t.Helper()
	section := func(kind, link uint32, at, size uint64) mold.Section {
		off, ok := head.Off(h, at, size)
		if !ok {
			t.Fatal(at, size)
		}
		return mold.Section{Kind: kind, Link: link, Off: off, Size: size}
	}
	l := []mold.Section{section(uint32(elf.SHT_DYNSYM), 5, d.Symtab, 24*uint64(symbols)), section(uint32(elf.SHT_GNU_VERSYM), 1, d.Versym, 2*uint64(symbols))}
	if d.Verdefs > 0 {
		l = append(l, section(uint32(elf.SHT_GNU_VERDEF), 5, d.Verdef, secondEnd-d.Verdef))
	}
	if d.Verneeds > 0 {
		l = append(l, section(uint32(elf.SHT_GNU_VERNEED), 5, d.Verneed, versymAt-d.Verneed))
	}
	l[0].Link = uint32(len(l) + 1)
	l = append(l, section(uint32(elf.SHT_STRTAB), 0, d.Strings.At, d.Strings.Size))
	f, err := elf.NewFile(bytes.NewReader(mold.Listed(b, l...)))
	if err != nil {
		t.Fatal(err)
	}
	return f
}

// otherVersions: the versions as the other reader tells them.
func otherVersions(t *testing.T, f *elf.File) []vers.Version {
	t.Helper()
	var l []vers.Version
	own, err := f.DynamicVersions()
	if err != nil {
		t.Fatal(err)
	}
	for _, v := range own {
		if v.Flags&elf.VER_FLG_BASE == 0 {
			l = append(l, vers.Version{Number: v.Index, Name: v.Name})
		}
	}
	libs, err := f.DynamicVersionNeeds()
	if err != nil {
		t.Fatal(err)
	}
	for _, lib := range libs {
		for _, v := range lib.Needs {
			l = append(l, vers.Version{Number: v.Index, Name: v.Dep, From: lib.Name})
		}
	}
	return l
}

// P1: of any bytes, any headers and any dynamic section each call ends, and says nothing beside an error.
func TestAnything(t *testing.T) {
	met := map[api.Errno]int{}
	for seed := range uint64(20000) {
		r := row{rows.New(seed)}
		x := r.right()
		l, numbers := r.few(x)
		b := x.numbers(numbers...).File()
		h, d := layers(t, b)
		if r.Below(2) == 0 {
			for range 1 + r.Below(5) {
				h.Loads = append(h.Loads, api.Phdr{Off: r.value(), Vaddr: r.value(), Filesz: r.value(), Memsz: r.value()})
			}
			h.Loads[r.Below(len(h.Loads))].Vaddr = r.value()
			h.Loads = h.Loads[:r.Below(len(h.Loads)+1)]
		}
		for _, n := range []*uint64{&d.Versym, &d.Verdef, &d.Verdefs, &d.Verneed, &d.Verneeds, &d.Strings.At, &d.Strings.Size} {
			if r.Below(6) == 0 {
				*n = r.value()
			}
		}
		if r.Below(3) == 0 {
			b = b[:r.Below(len(b))]
		}
		if r.Below(4) == 0 {
			for i := range b {
				b[i] = byte(r.Next() >> 20)
			}
		}
		versions, e := vers.List(b, h, d)
		if e != api.OK && (e != api.ErrVersion || len(versions) != 0) || len(versions) > 32 {
			t.Fatalf("row %d: %v, %v", seed, versions, e)
		}
		put, putErr := vers.Put(b, h, d, l)
		if putErr != api.OK && (putErr != api.ErrVersion || len(put) != 0) || putErr == api.OK && (e != api.OK || len(put) != len(l)) {
			t.Fatalf("row %d: %v, %v", seed, put, putErr)
		}
		met[e]++
	}
	if met[api.OK] < 1000 || met[api.ErrVersion] < 1000 {
		t.Error(met)
	}
	// Nothing at all: no part has the strings' place.
	if l, e := vers.List(nil, api.Heads{}, api.Dyn{}); e != api.ErrVersion || len(l) != 0 {
		t.Error(l, e)
	}
	if l, e := vers.Put(nil, api.Heads{}, api.Dyn{}, few()); e != api.ErrVersion || len(l) != 0 {
		t.Error(l, e)
	}
}
