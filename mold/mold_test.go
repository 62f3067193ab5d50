package mold_test

import (
	"bytes"
	"debug/elf"
	"io"
	"slices"
	"strings"
	"testing"

	"messuage/api"
	"messuage/mold"
)

// three: a library of three parts, with a tag and an end.
func three() *mold.Lib {
	x := mold.New(400, api.Phdr{Flags: 4, Filesz: 512, Memsz: 512}, api.Phdr{Flags: 6, Vaddr: 512, Filesz: 300, Memsz: 400}, api.Phdr{Flags: 5, Vaddr: 1024, Filesz: 256, Memsz: 256})
	x.Tags[5], x.Tags[4] = 1024, 7
	x.Put(520, 2, 0x0201, 0x0403)
	x.Put(1024, 8, 0x0807060504030201)
	return x
}

// What is put is read at its place, and may be moved.
func TestPut(t *testing.T) {
	x := three()
	for _, p := range [][3]uint64{{520, 4, 0x04030201}, {521, 2, 0x0302}, {1024, 8, 0x0807060504030201}, {1028, 4, 0x08070605}} {
		if n := x.Get(p[0], int(p[1])); n != p[2] {
			t.Errorf("at %d: %#x", p[0], n)
		}
	}
	x.Move(520, 522, 4)
	if n := x.Get(520, 8); n != 0x040302010000 {
		t.Errorf("%#x", n)
	}
}

// The file is what it was to be, as another reader has it; and each part's bytes stand in it.
func TestFile(t *testing.T) {
	x := three()
	b := x.File()
	f, err := elf.NewFile(bytes.NewReader(mold.Listed(b, mold.Section{Kind: 3, Off: 520, Size: 4})))
	if err != nil {
		t.Fatal(err)
	}
	if f.Machine != elf.EM_X86_64 || f.Type != elf.ET_DYN || len(f.Progs) != 4 || len(f.Sections) != 2 {
		t.Fatalf("%+v", f)
	}
	for i, p := range f.Progs[:3] {
		want := x.Loads[i]
		if p.Type != elf.PT_LOAD || p.Vaddr != want.Vaddr || p.Filesz != want.Filesz || p.Memsz != want.Memsz || uint32(p.Flags) != want.Flags || p.Off%256 != 0 {
			t.Errorf("%+v", p)
		}
		part, err := io.ReadAll(p.Open())
		if i > 0 && !bytes.Equal(part, x.Image[want.Vaddr:want.Vaddr+want.Filesz]) || err != nil {
			t.Errorf("part %d: %v, %v", i, part, err)
		}
	}
	if f.Progs[1].Off <= f.Progs[2].Off {
		t.Error("the parts stand as in the memory")
	}
	section := "\x04\x00\x00\x00\x00\x00\x00\x00\x07\x00\x00\x00\x00\x00\x00\x00\x05\x00\x00\x00\x00\x00\x00\x00\x00\x04\x00\x00\x00\x00\x00\x00" + strings.Repeat("\x00", 16)
	if p := f.Progs[3]; p.Type != elf.PT_DYNAMIC || p.Vaddr != 400 || string(b[400:400+p.Filesz]) != section {
		t.Errorf("%+v: %v", p, b[400:400+p.Filesz])
	}
	if s := f.Sections[1]; s.Type != elf.SHT_STRTAB || s.Offset != 520 || s.Size != 4 {
		t.Errorf("%+v", s)
	}
}

// Other program headers stand behind those, as they are.
func TestOthers(t *testing.T) {
	x := three()
	x.Others = []api.Phdr{{Type: api.PtRelro, Flags: 4, Off: 1, Vaddr: 512, Filesz: 2, Memsz: 256}, {Type: 7, Vaddr: 3}}
	f, err := elf.NewFile(bytes.NewReader(mold.Listed(x.File(), mold.Section{Kind: 3, Off: 520, Size: 4})))
	if err != nil || len(f.Progs) != 6 {
		t.Fatal(f, err)
	}
	if p := f.Progs[4].ProgHeader; p != (elf.ProgHeader{Type: elf.PT_GNU_RELRO, Flags: 4, Off: 1, Vaddr: 512, Filesz: 2, Memsz: 256}) {
		t.Errorf("%+v", p)
	}
	if p := f.Progs[5].ProgHeader; p != (elf.ProgHeader{Type: elf.PT_TLS, Vaddr: 3}) {
		t.Errorf("%+v", p)
	}
}

// What of the memory stands in the file, part by part.
func TestMemory(t *testing.T) {
	x := three()
	b := x.File()
	loads := slices.Clone(x.Loads)
	loads[1].Off, loads[2].Off = 768, 512
	m := mold.Read(b, loads)
	for _, row := range []struct {
		at, size uint64
		want     string
		ok       bool
	}{
		{0, 4, "\x7fELF", true}, {520, 4, "\x01\x02\x03\x04", true}, {1024, 8, "\x01\x02\x03\x04\x05\x06\x07\x08", true}, {811, 1, "\x00", true},
		{811, 2, "", false}, {812, 1, "", false}, {511, 2, "", false}, {1023, 1, "", false}, {1279, 1, "\x00", true}, {1280, 1, "", false},
		{812, 0, "", true}, {813, 0, "", false}, {1280, 0, "", true}, {1 << 63, 1, "", false}, {1<<64 - 1, 2, "", false}, {0, 1<<64 - 1, "", false},
	} {
		if got, ok := m.Row(row.at, row.size); got != row.want || ok != row.ok {
			t.Errorf("Row(%d, %d): %q, %v", row.at, row.size, got, ok)
		}
	}
}

// Texts among strings.
func TestText(t *testing.T) {
	long := strings.Repeat("l", 64)
	s := "\x00ab\x00a b\x00\x7f\x00" + long + "l\x00~!\x00open"
	for at, want := range map[int]string{0: "", 1: "ab", 2: "b", 3: "", 6: "b", 11: long, 76: "~!", 77: "!", 78: ""} {
		if got, ok := mold.Text(s, uint64(at)); got != want || !ok {
			t.Errorf("at %d: %q, %v", at, got, ok)
		}
	}
	for _, at := range []int{4, 5, 8, 10, 79, 82, 83, 84, -1} {
		if got, ok := mold.Text(s, uint64(at)); got != "" || ok {
			t.Errorf("at %d: %q, %v", at, got, ok)
		}
	}
}
