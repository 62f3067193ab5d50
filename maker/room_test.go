package maker_test

import (
	"bytes"
	"debug/elf"
	"fmt"
	"math"
	"slices"
	"strings"
	"testing"

	"messuage/api"
	"messuage/head"
	"messuage/maker"
	"messuage/mold"
	"messuage/rows"
	"messuage/syms"
)

// filled: the Spec with so many more noughts, bytes of data and texts that it has as many bytes in the chapter's reckoning; false: it has more, or can't be filled so far.
func filled(s api.Spec, size int) (api.Spec, bool) {
	s = copied(s)
	more := func(at *int, most int) {
		*at = max(*at, min(most, *at+size-reckoned(s)))
	}
	more(&s.Zeros, 4096)
	own := len(s.Data)
	more(&own, 4096)
	s.Data = data(own)
	text := func(at *string) {
		n := len(*at)
		more(&n, 64)
		*at += strings.Repeat("t", n-len(*at))
	}
	text(&s.Soname)
	text(&s.Runpath)
	for i := range s.Syms {
		text(&s.Syms[i].Name)
	}
	return s, reckoned(s) == size
}

// great: Specs of the most of each thing that the chapter's reckoning lets have room, each of them with as little of the others as may be.
func great(machine uint16) map[string]api.Spec {
	l := map[string]api.Spec{
		"nothing":            {Machine: machine},
		"all needed":         {Machine: machine, Needed: names(16, 64)},
		"functions":          {Machine: machine, Init: 8, Fini: 8, Symbolic: true, Global: true, Nodelete: true},
		"short names":        {Machine: machine, Syms: owned(120, 3), Zeros: 1},
		"long names":         {Machine: machine, Syms: owned(60, 64), Zeros: 1},
		"versions":           {Machine: machine, Syms: slices.Concat(versioned(31, 0), versioned(31, 0), versioned(31, 0)), Zeros: 1},
		"asked versions":     {Machine: machine, Syms: slices.Concat(versioned(0, 31), versioned(0, 31), versioned(0, 31)), Needed: names(1, 64)},
		"versions of a kind": {Machine: machine, Syms: versioned(16, 15), Needed: names(16, 1+len("n0")), Zeros: 1},
		"read-only":          {Machine: machine, Data: data(4096), Relro: 16, Init: 8, Fini: 8},
		"places":             placed(machine, 1000, 0, steps(0, 112, 8)),
		"rows":               placed(machine, 0, 4096, nil, steps(0, 60, 64)...),
		"rows far apart":     placed(machine, 4096, 3000, nil, steps(0, 13, 520)...),
	}
	// What is added, type and symbol are another one each time, so that packed lists are as long as they can be.
	s := placed(machine, 1000, 0, steps(0, 100, 8))
	s.Syms = owned(2, 3)
	for i := range s.Rels {
		s.Rels[len(s.Rels)-1-i].At = uint64(8 * (i ^ 1))
		s.Rels[i].Type, s.Rels[i].Sym = types(machine)[i%4], uint32(i%3)
		s.Rels[i].Add = []int64{math.MinInt64 / 2, math.MaxInt64 / 2}[i%2]
	}
	l["uneven places"] = s
	for name, s := range l {
		s.Machine = machine
		l[name] = s
	}
	return l
}

// P17.2: what has up to 8192 bytes in the chapter's reckoning has room.
func TestSure(t *testing.T) {
	for _, machine := range machines() {
		for name, s := range great(machine) {
			for bits := range 64 {
				s := copied(s)
				choices(&s, bits)
				for _, size := range []int{sureBytes, sureBytes - 1, sureBytes - 200} {
					if size < sureBytes && reckoned(s) > size {
						continue
					}
					x, ok := filled(s, size)
					if !ok {
						t.Fatalf("%s: %d, not %d", name, reckoned(x), size)
					}
					says(t, fmt.Sprintf("%s, %d bytes, choices %b", name, size, bits), x)
				}
			}
		}
		says(t, "data alone", api.Spec{Machine: machine, Data: data(4096), Zeros: 4096})
	}
}

// P17.2: what can't lie in 64 pages, however it is laid, has no room.
func TestNoRoom(t *testing.T) {
	for _, machine := range machines() {
		for bits := range 64 {
			s := api.Spec{Machine: machine, Syms: owned(255, 64), Zeros: 1}
			choices(&s, bits)
			noRoom(t, "names", s)
			s = api.Spec{Machine: machine, Needed: names(16, 64), Data: data(4096), Zeros: 4096, Syms: owned(120, 64)}
			choices(&s, bits)
			noRoom(t, "names and data", s)
			s = placed(machine, 4096, 4096, steps(0, 512, 8))
			s.Syms = owned(100, 64)
			choices(&s, bits)
			noRoom(t, "places", s)
		}
	}
	s := full(api.Intel)
	s.Syms = append(s.Syms, owned(240, 64)...)
	noRoom(t, "all", s)
	s.Syms[0].Name = ""
	wrong(t, "all, and wrong", s)
}

// P17.2: the last page is one for the data, and none is behind it; what has more ahead of them has no room.
func TestLastPage(t *testing.T) {
	for _, machine := range machines() {
		for _, c := range []struct {
			own, zeros int
			last       uint64
		}{{4096, 4096, 8192}, {4096, 4095, 8192}, {4096, 3840, 8448}, {256, 0, spanEnd - 256}, {1, 0, spanEnd - 256}, {0, 256, spanEnd - 256}, {0, 257, spanEnd - 512}, {0, 1, spanEnd - 256}, {0, 0, spanEnd - 256}} {
			for _, gnu := range []bool{false, true} {
				last := uint64(0)
				for many := range 256 {
					s := api.Spec{Machine: machine, Data: data(c.own), Zeros: c.zeros, Runpath: "/lib", Gnu: gnu}
					for _, name := range names(many, 50) {
						s.Syms = append(s.Syms, api.Sym{Name: name, Bind: api.Weak})
					}
					at := maker.DataAt(s)
					if at == 0 {
						if last != c.last || reckoned(s) <= sureBytes {
							t.Fatalf("%+v: no room behind %d", c, last)
						}
						noRoom(t, "one more", s)
						break
					}
					if at < last || at > c.last {
						t.Fatalf("%+v: %d behind %d", c, at, last)
					}
					if last = at; last == c.last {
						says(t, fmt.Sprintf("%+v, %d symbols", c, many), s)
					}
				}
			}
		}
	}
}

// P17.2: the data begin at the first page at which all ahead of them has room.
func TestFirstPage(t *testing.T) {
	for _, machine := range machines() {
		for bits := range 64 {
			for size := range 65 {
				s := full(machine)
				s.Soname = strings.Repeat("s", size)
				s.Syms = append(s.Syms, owned(size, 7)...)
				choices(&s, bits)
				l, at, b := made(t, "a name", s)
				aligned(t, l)
				ahead := l.Heads.Loads[0]
				if ahead.Off != 0 || ahead.Filesz != ahead.Memsz || ahead.Memsz > at || !s.Packed && ahead.Memsz <= at-256 {
					t.Fatalf("choices %b, %d: %+v, data at %d", bits, size, ahead, at)
				}
				if uint64(len(b)) != at+uint64(len(s.Data)) {
					t.Fatalf("choices %b, %d: %d bytes, data at %d", bits, size, len(b), at)
				}
			}
		}
	}
}

// aligned: all that numbers of up to eight bytes stand in begins at a multiple of eight.
func aligned(t *testing.T, l api.Lib) {
	t.Helper()
	d := l.Dyn
	for _, at := range []uint64{d.Symtab, d.Hash, d.GnuHash, d.Versym, d.Verdef, d.Verneed, d.Rel.At, d.Rela.At, d.Relr.At, d.Init.At, d.Fini.At, l.Heads.Dynamic.Vaddr} {
		if at%8 != 0 {
			t.Errorf("numbers of up to eight bytes at %d: %+v", at, d)
		}
	}
}

// P17.2: a text that is said often stands in the library once: these symbols have room.
func TestTextsOnce(t *testing.T) {
	for _, machine := range machines() {
		s := bare(machine)
		s.Needed = []string{"l"}
		for i := range mostSyms {
			s.Syms = append(s.Syms, api.Sym{Name: names(1, 64)[0], Ver: names(2, 64)[i%2], Bind: api.Weak})
		}
		says(t, "one name", s)
	}
}

// P17.2: both tables of sums tell how many symbols there are, and lead to all of them, each by itself.
func TestTables(t *testing.T) {
	for _, machine := range machines() {
		for many := range 256 {
			s := bare(machine)
			s.Gnu, s.Syms = true, owned(many, 4)
			for i := range s.Syms {
				if i%7 == many%7 {
					s.Syms[i] = api.Sym{Name: s.Syms[i].Name, Bind: api.Weak}
				}
			}
			l, at, b := made(t, "symbols", s)
			for _, leave := range []func(d *api.Dyn){func(d *api.Dyn) { d.Hash = 0 }, func(d *api.Dyn) { d.GnuHash = 0 }} {
				d := l.Dyn
				leave(&d)
				if got, e := syms.Parse(b, l.Heads, d); e != api.OK || !slices.Equal(got, wantSyms(s, at)) {
					t.Fatalf("%d symbols: %v, %v", many, got, e)
				}
			}
		}
	}
}

// P17.2: packed lists of many sizes, which hang on where the data begin.
func TestPackedSizes(t *testing.T) {
	for _, machine := range machines() {
		for many := 1; many <= 512; many += 1 + many/40 {
			for _, add := range []int64{0, -1024, -2048, -8192, 1 << 40} {
				s := placed(machine, 4096, 0, steps(0, many, 8))
				s.Packed = true
				for i := range s.Rels {
					s.Rels[i].Add = add
					if i%3 == 0 && add != 0 {
						s.Rels[i].Type, s.Rels[i].Add = absolute(machine), -1
					}
				}
				if s.Rels = slices.Clone(s.Rels); maker.DataAt(s) == 0 {
					noRoom(t, "many", s)
					continue
				}
				says(t, fmt.Sprintf("%d, adding %d", many, add), s)
			}
		}
	}
}

// Rule 5: what is handed in isn't changed or kept; what is answered is new memory; what lies behind a list's length is neither read nor handed out.
func TestMemory(t *testing.T) {
	for _, machine := range machines() {
		s := full(machine)
		kept := copied(s)
		b, e := maker.Make(s)
		want := slices.Clone(b)
		if e != api.OK {
			t.Fatal(e)
		}
		s.Data[0], s.Needed[0], s.Syms[0].Name, s.Rels[0].At, s.Relr[0] = 99, "other", "other", 3, 8
		if !bytes.Equal(b, want) {
			t.Error("the answer hangs on what was handed in")
		}
		clear(b)
		if again, _ := maker.Make(kept); !bytes.Equal(again, want) {
			t.Error("the second answer is another one")
		}
		s = copied(kept)
		s.Needed = append(s.Needed, "")[:2]
		s.Syms = append(s.Syms, api.Sym{})[:7]
		s.Rels = append(s.Rels, api.Rel{})[:3]
		s.Relr = append(s.Relr, 1)[:4]
		s.Data = append(s.Data, data(4000)...)[:520]
		behind := slices.Clone(s.Data[:cap(s.Data)])
		b, e = maker.Make(s)
		if e != api.OK || !bytes.Equal(b, want) {
			t.Error("it hangs on what lies behind the lists")
		}
		_ = append(b, 1, 2, 3)
		if !bytes.Equal(s.Data[:cap(s.Data)], behind) || s.Relr[:5][4] != 1 || s.Needed[:3][2] != "" {
			t.Error("what lies behind the lists is another one")
		}
	}
}

// P17.2: what is made, as another reader of ELF files has it.
func TestOtherReader(t *testing.T) {
	for _, machine := range machines() {
		for bits := range 64 {
			s := full(machine)
			choices(&s, bits)
			l, at, b := made(t, "all", s)
			f := other(t, l, b)
			if f.Type != elf.ET_DYN || f.Machine != elf.Machine(machine) || f.Version != elf.EV_CURRENT || len(f.Progs) != 4 {
				t.Fatalf("%+v", f.FileHeader)
			}
			data := f.Progs[1]
			own := make([]byte, len(s.Data))
			if _, err := data.ReadAt(own, 0); err != nil || data.Vaddr != at || data.Flags != elf.PF_R|elf.PF_W || data.Align != 256 || !bytes.Equal(own, s.Data) {
				t.Errorf("%+v, %v", data.ProgHeader, err)
			}
			otherTexts(t, f, s)
			otherSymbols(t, f, s, at)
		}
	}
}

// other: the file as the other reader has it, which asks for sections.
func other(t *testing.T, l api.Lib, b []byte) *elf.File {
	t.Helper()
	d, many := l.Dyn, uint64(len(l.Syms))
	section := func(kind elf.SectionType, link uint32, at, size uint64) mold.Section {
		off, ok := head.Off(l.Heads, at, size)
		if !ok {
			t.Fatal(kind, at, size)
		}
		return mold.Section{Kind: uint32(kind), Link: link, Off: off, Size: size}
	}
	f, err := elf.NewFile(bytes.NewReader(mold.Listed(b,
		section(elf.SHT_STRTAB, 0, d.Strings.At, d.Strings.Size),
		section(elf.SHT_DYNSYM, 1, d.Symtab, 24*many),
		section(elf.SHT_DYNAMIC, 1, l.Heads.Dynamic.Vaddr, l.Heads.Dynamic.Filesz),
		section(elf.SHT_GNU_VERSYM, 2, d.Versym, 2*many),
		section(elf.SHT_GNU_VERDEF, 1, d.Verdef, 28*d.Verdefs),
		section(elf.SHT_GNU_VERNEED, 1, d.Verneed, 32),
		section(elf.SHT_STRTAB, 0, d.Strings.At, 1),
	)))
	if err != nil {
		t.Fatal(err)
	}
	return f
}

// otherTexts: the texts that it reads are the Spec's, and so are the flags.
func otherTexts(t *testing.T, f *elf.File, s api.Spec) {
	t.Helper()
	for tag, want := range map[elf.DynTag][]string{elf.DT_NEEDED: s.Needed, elf.DT_SONAME: {s.Soname}, elf.DT_RUNPATH: {s.Runpath}} {
		if got, err := f.DynString(tag); err != nil || !slices.Equal(got, want) {
			t.Errorf("%v: %q, %v", tag, got, err)
		}
	}
	flags := uint64(0)
	if s.Global {
		flags |= uint64(elf.DF_1_GLOBAL)
	}
	if s.Nodelete {
		flags |= uint64(elf.DF_1_NODELETE)
	}
	for tag, want := range map[elf.DynTag]uint64{elf.DT_FLAGS_1: flags, elf.DT_INIT_ARRAYSZ: 8 * uint64(s.Init), elf.DT_FINI_ARRAYSZ: 8 * uint64(s.Fini), elf.DT_SYMENT: 24} {
		if got, err := f.DynValue(tag); err != nil || len(got) > 1 || append(got, 0)[0] != want {
			t.Errorf("%v: %v, %v", tag, got, err)
		}
	}
}

// otherSymbols: the symbols that it reads are the Spec's, each with its version, which it asks the first library for that is needed.
func otherSymbols(t *testing.T, f *elf.File, s api.Spec, at uint64) {
	t.Helper()
	l, err := f.DynamicSymbols()
	if err != nil || len(l) != len(s.Syms) {
		t.Fatal(l, err)
	}
	for i, x := range s.Syms {
		got := l[i]
		value, lib := uint64(0), ""
		if x.Defined {
			value = at + x.Value
		} else if x.Ver != "" {
			lib = s.Needed[0]
		}
		if got.Name != x.Name || got.Version != x.Ver || got.Library != lib || got.Value != value || got.Size != x.Size || (got.Section == elf.SHN_UNDEF) == x.Defined || int(got.Info)>>4 != x.Bind || got.VersionIndex.IsHidden() != x.Hidden {
			t.Errorf("%+v, not %+v", got, x)
		}
	}
}

// P1: any Specs: each call ends, and says nothing beside an error.
func TestAnything(t *testing.T) {
	met := map[bool]int{}
	for seed := range uint64(6000) {
		r := row{rows.New(seed)}
		s := r.anything()
		right, at := maker.Right(s), maker.DataAt(s)
		b, e := maker.Make(s)
		if at > 0 && !right || (at == 0) != (e == api.ErrSpec) || (at == 0) != (len(b) == 0) || at > 0 && e != api.OK {
			t.Fatalf("row %d: %v, %d, %d bytes, %v", seed, right, at, len(b), e)
		}
		met[right]++
	}
	if met[true] < 100 || met[false] < 1000 {
		t.Error(met)
	}
	long := make([]string, 1<<20)
	many := api.Spec{Machine: api.Arm, Data: data(4096), Needed: long, Syms: make([]api.Sym, 1<<20), Rels: make([]api.Rel, 1<<20), Relr: make([]uint64, 1<<20)}
	wrong(t, "much of all", many)
	many.Needed = nil
	wrong(t, "many symbols", many)
	many.Syms = nil
	wrong(t, "many relocations", many)
	many.Rels = nil
	wrong(t, "many places", many)
}
