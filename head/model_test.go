package head_test

import (
	"bytes"
	"debug/elf"
	"encoding/binary"
	"slices"
	"strings"
	"testing"

	"messuage/api"
	"messuage/head"
	"messuage/rows"
)

// numbers is a row of numbers, and what is made of them here.
type numbers struct{ *rows.Row }

func row(seed uint64) *numbers { return &numbers{rows.New(seed)} }

// bounded: is it a number with which one may reckon without care?
func bounded(n ...uint64) bool { return slices.Max(n) < 1<<20 }

// readTable: the program headers of a file by the chapter's words.
func readTable(s string) ([]api.Phdr, api.Errno) {
	if len(s) < 64 || !strings.HasPrefix(s, "\x7fELF") {
		return nil, api.ErrMagic
	}
	if s[4] != 2 || s[5] != 1 || s[6] != 1 {
		return nil, api.ErrClass
	}
	if s[16:18] != "\x03\x00" {
		return nil, api.ErrType
	}
	if s[18:20] != "\x3e\x00" && s[18:20] != "\xb7\x00" {
		return nil, api.ErrMachine
	}
	many := int(s[56]) + 256*int(s[57])
	if s[52:56] != "\x40\x00\x38\x00" || many == 0 || many > 16 {
		return nil, api.ErrHeads
	}
	place := binary.LittleEndian.Uint64([]byte(s[32:]))
	if !bounded(place) || int(place)+56*many > len(s) {
		return nil, api.ErrHeads
	}
	var l []api.Phdr
	for i := range many {
		b := []byte(s[int(place)+56*i:])
		p := api.Phdr{Type: binary.LittleEndian.Uint32(b), Flags: binary.LittleEndian.Uint32(b[4:])}
		for at, n := range map[int]*uint64{8: &p.Off, 16: &p.Vaddr, 32: &p.Filesz, 40: &p.Memsz, 48: &p.Align} {
			*n = binary.LittleEndian.Uint64(b[at:])
		}
		l = append(l, p)
	}
	return l, api.OK
}

// model is a library's memory by the chapter's words, byte by byte: which part each page and each byte is of, and where it stands in the file.
type model struct {
	h     api.Heads
	pages []int
	bytes []int
	file  []int
}

// put: a list with a number at a place, and -1 wherever none was put.
func put(l []int, at, n int) []int {
	for len(l) <= at {
		l = append(l, -1)
	}
	l[at] = n
	return l
}

// all: is the same number, and one that was put, at so many places, at least one?
func all(l []int, at, many int) bool {
	if at+many > len(l) || l[at] < 0 {
		return false
	}
	return !slices.ContainsFunc(l[at:at+many], func(n int) bool { return n != l[at] })
}

// add: one part more; false: it may not be.
func (m *model) add(p api.Phdr, size int) bool {
	if !bounded(p.Vaddr, p.Off, p.Filesz, p.Memsz) || p.Flags > 7 {
		return false
	}
	at, off, filesz, memsz := int(p.Vaddr), int(p.Off), int(p.Filesz), int(p.Memsz)
	if at%256 != 0 || off%256 != 0 || memsz == 0 || memsz > 64*256 || filesz > memsz || off+filesz > size {
		return false
	}
	number := len(m.h.Loads)
	if number == 0 && at != 0 || at/256 < len(m.pages) || (at+memsz-1)/256 > 63 {
		return false
	}
	for i := range memsz {
		m.pages = put(m.pages, (at+i)/256, number)
		m.bytes = put(m.bytes, at+i, number)
	}
	for i := range filesz {
		m.file = put(m.file, at+i, off+i)
	}
	m.h.Loads = append(m.h.Loads, p)
	return true
}

// off: where bytes stand in the file.
func (m *model) off(at, size uint64) (uint64, bool) {
	if !bounded(at, size) {
		return 0, false
	}
	if size == 0 {
		for _, p := range m.h.Loads {
			if at >= p.Vaddr && at <= p.Vaddr+p.Filesz {
				return p.Off + at - p.Vaddr, true
			}
		}
		return 0, false
	}
	if int(at+size) > len(m.file) || slices.Contains(m.file[at:at+size], -1) || !all(m.bytes, int(at), int(size)) {
		return 0, false
	}
	return uint64(m.file[at]), true
}

// inside: are they all of one part's memory?
func (m *model) inside(at, size uint64) bool {
	if !bounded(at, size) {
		return false
	}
	if size == 0 {
		return slices.ContainsFunc(m.h.Loads, func(p api.Phdr) bool { return at >= p.Vaddr && at <= p.Vaddr+p.Memsz })
	}
	return all(m.bytes, int(at), int(size))
}

// readOnly: may a read-only piece be so?
func (m *model) readOnly(p api.Phdr) bool {
	if !bounded(p.Vaddr, p.Memsz) || p.Memsz == 0 || p.Vaddr%256 != 0 {
		return false
	}
	first := int(p.Vaddr / 256)
	if !all(m.pages, first, int(p.Memsz+255)/256) {
		return false
	}
	return m.h.Loads[m.pages[first]].Flags/2%2 == 1
}

// read: what a library's headers say.
func read(s string) (model, api.Errno) {
	m := model{}
	l, e := readTable(s)
	if e != api.OK {
		return m, e
	}
	m.h.Machine = uint16(s[18])
	count := map[uint32]int{}
	for _, p := range l {
		count[p.Type]++
		if p.Type == 1 && !m.add(p, len(s)) {
			return m, api.ErrLoad
		}
		if p.Type == 2 {
			m.h.Dynamic = p
		}
		if p.Type == 0x6474e552 {
			m.h.Relro = p
		}
	}
	if count[1] == 0 {
		return m, api.ErrLoad
	}
	d := m.h.Dynamic
	if _, ok := m.off(d.Vaddr, d.Filesz); count[2] != 1 || d.Filesz == 0 || d.Vaddr%8 != 0 || !ok {
		return m, api.ErrDynamic
	}
	if pieces := count[0x6474e552]; pieces > 1 || pieces == 1 && !m.readOnly(m.h.Relro) {
		return m, api.ErrRelro
	}
	return m, api.OK
}

// size: any number of bytes, often one near pages' ends.
func (r *numbers) size(pages int) uint64 {
	return uint64(max(1, 256*r.Below(pages+1)+[]int{-1, 0, 0, 1, 100}[r.Below(5)]))
}

// parts: some that may be, and how many bytes the file has at least.
func (r *numbers) parts() ([]api.Phdr, uint64) {
	var l []api.Phdr
	at, size := uint64(0), uint64(1024)
	for range 1 + r.Below(4) {
		p := load(uint32(r.Below(8)), at, 0, r.size(5))
		p.Filesz = []uint64{0, p.Memsz, p.Memsz, uint64(r.Below(int(p.Memsz)))}[r.Below(4)]
		p.Off = 256 * uint64(r.Below(5))
		p.Align = uint64(r.Below(5000))
		size = max(size, p.Off+p.Filesz)
		at += (p.Memsz+255)/256*256 + 256*uint64(r.Below(3)/2)
		l = append(l, p)
	}
	return l, size
}

// library: the program headers of any library, most often of a right one, and how many bytes its file has.
func (r *numbers) library() ([]api.Phdr, uint64) {
	l, size := r.parts()
	in := l[r.Below(len(l))]
	d := dynamic(in.Vaddr, 1+uint64(r.Below(int(in.Filesz)+1)))
	if room := in.Filesz - min(in.Filesz, d.Filesz); room > 0 {
		d.Vaddr += uint64(r.Below(int(room))) / 8 * 8
	}
	d.Off = r.Next()
	l = slices.Insert(l, r.Below(len(l)+1), d)
	if r.Below(2) == 0 {
		on := l[r.Below(len(l))]
		l = slices.Insert(l, r.Below(len(l)+1), relro(on.Vaddr/256*256+256*uint64(r.Below(3)/2), r.size(2)))
	}
	for range r.Below(3) {
		l = slices.Insert(l, r.Below(len(l)+1), api.Phdr{Type: uint32(3 + r.Below(5)), Off: r.Next(), Memsz: r.Next()})
	}
	return l, size
}

// turn: another number, near one or at an edge.
func (r *numbers) turn(n uint64) uint64 {
	near := []uint64{n + 1, n - 1, n + 8, n - 8, n + 256, n - 256, -n, -n + 256}
	edges := []uint64{0, 1, 7, 8, 255, 256, 257, 512, most - 256, most, most + 1, 1 << 32, 1 << 63, huge - 255, huge}
	return append(near, edges...)[r.Below(len(near)+len(edges))]
}

// spoil: the headers with one of them turned, lost, doubled, or moved.
func (r *numbers) spoil(l []api.Phdr) []api.Phdr {
	i := r.Below(len(l))
	p := &l[i]
	switch r.Below(10) {
	case 0:
		return slices.Delete(l, i, i+1)
	case 1:
		return slices.Insert(l, r.Below(len(l)+1), *p)
	case 2:
		j := r.Below(len(l))
		l[i], l[j] = l[j], l[i]
	case 3:
		p.Flags = uint32(r.Below(10))
	case 4:
		p.Off = r.turn(p.Off)
	case 5, 6:
		p.Vaddr = r.turn(p.Vaddr)
	case 7:
		p.Filesz = r.turn(p.Filesz)
	case 8, 9:
		p.Memsz = r.turn(p.Memsz)
	}
	return l
}

// bytes: the file of any library.
func (r *numbers) bytes() []byte {
	l, size := r.library()
	for range r.Below(3) {
		if len(l) > 0 {
			l = r.spoil(l)
		}
	}
	least := uint64(64 + 56*len(l))
	size = max(size, least)
	if r.Below(20) == 0 {
		size = max(size-1, least)
	}
	b := file(int(size), l...)
	if r.Below(12) == 0 {
		at := []int{0, 3, 4, 5, 6, 16, 17, 18, 19, 32, 33, 39, 52, 54, 56, 57, 8, 20, 40, 60}[r.Below(20)]
		b[at] += byte(1 + r.Below(255))
	}
	if r.Below(40) == 0 {
		b = b[:r.Below(len(b)+1)]
	}
	return b
}

// checkMemory: what is answered of a library's memory, held against the model's, at the edges of its parts and elsewhere.
func checkMemory(t *testing.T, r *numbers, b []byte, h api.Heads, m *model) {
	t.Helper()
	for range 30 {
		p := h.Loads[r.Below(len(h.Loads))]
		at := []uint64{p.Vaddr, p.Vaddr + p.Filesz, p.Vaddr + p.Memsz, uint64(r.Below(len(m.bytes) + 300))}[r.Below(4)]
		size := []uint64{0, 1, p.Filesz, p.Memsz, uint64(r.Below(20)), m.h.Loads[0].Memsz + p.Memsz}[r.Below(6)]
		if r.Below(2) == 0 {
			at, size = at-uint64(r.Below(3))+1, size-uint64(r.Below(3))+1
		}
		if r.Below(10) == 0 {
			at, size = r.turn(at), r.turn(size)
		}
		want, wantOK := m.off(at, size)
		if got, ok := head.Off(h, at, size); got != want || ok != wantOK {
			t.Fatalf("Off(%d, %d): %d, %v, not %d, %v: %v", at, size, got, ok, want, wantOK, h)
		}
		if got := head.Inside(h, at, size); got != m.inside(at, size) {
			t.Fatalf("Inside(%d, %d): %v: %v", at, size, got, h)
		}
		part, ok := head.Part(b, h, at, size)
		if ok != wantOK || ok && !bytes.Equal(part, b[want:want+size]) || !ok && len(part) != 0 {
			t.Fatalf("Part(%d, %d): %v, %v: %v", at, size, part, ok, h)
		}
	}
	if n := head.Span(h); n != len(m.pages) {
		t.Fatalf("Span: %d: %v", n, h)
	}
}

// checkApart: parts have no page in common, and lie in Span's pages.
func checkApart(t *testing.T, h api.Heads) {
	t.Helper()
	owner := make([]int, head.Span(h))
	for i, p := range h.Loads {
		end := head.End(p)
		if end%256 != 0 || p.Vaddr >= end || end-p.Vaddr < p.Memsz || end-p.Vaddr >= p.Memsz+256 || int(end/256) > len(owner) {
			t.Fatalf("part %d ends at %d: %v", i, end, h)
		}
		for n := p.Vaddr / 256; n < end/256; n++ {
			if owner[n] != 0 {
				t.Fatalf("page %d is of two parts: %v", n, h)
			}
			owner[n] = i + 1
		}
	}
}

// P8.1 to P8.4: any files, right and wrong, held against the chapter's words.
func TestAgainstModel(t *testing.T) {
	met := map[api.Errno]int{}
	pieces := 0
	for seed := range uint64(20000) {
		r := row(seed)
		b := r.bytes()
		want, wantErr := readTable(string(b))
		if l, e := head.Table(b); e != wantErr || !slices.Equal(l, want) {
			t.Fatalf("row %d: Table: %v, %v, not %v, %v", seed, l, e, want, wantErr)
		}
		m, e := read(string(b))
		met[e]++
		h, got := head.Parse(b)
		if got != e {
			t.Fatalf("row %d: Parse: %v, %v, not %v: %v", seed, h, got, e, want)
		}
		if e != api.OK {
			if !none(h) {
				t.Fatalf("row %d: Parse: %v beside %v", seed, h, e)
			}
			continue
		}
		if !same(h, m.h) {
			t.Fatalf("row %d: Parse: %v, not %v", seed, h, m.h)
		}
		if h.Relro.Memsz != 0 {
			pieces++
		}
		checkMemory(t, r, b, h, &m)
		checkApart(t, h)
	}
	for e := api.ErrMagic; e <= api.ErrRelro; e++ {
		if met[e] < 100 {
			t.Errorf("%v was met just %d times", e, met[e])
		}
	}
	if met[api.OK] < 4000 || pieces < 500 {
		t.Errorf("right: %d, with a read-only piece: %d", met[api.OK], pieces)
	}
}

// P8.1: what another reader of such files finds in them, is found here.
func TestOfStandard(t *testing.T) {
	held := 0
	for seed := range uint64(3000) {
		b := row(seed).bytes()
		l, e := head.Table(b)
		if e != api.OK || slices.ContainsFunc(l, func(p api.Phdr) bool { return int64(p.Off) < 0 || int64(p.Filesz) < 0 }) {
			continue
		}
		b[20], b[40], b[60] = 1, 0, 0 // which that reader asks, too: the version again, and no sections
		f, err := elf.NewFile(bytes.NewReader(b))
		if err != nil || len(f.Progs) != len(l) {
			t.Fatalf("row %d: %v", seed, err)
		}
		for i, p := range f.Progs {
			if got := (api.Phdr{Type: uint32(p.Type), Flags: uint32(p.Flags), Off: p.Off, Vaddr: p.Vaddr, Filesz: p.Filesz, Memsz: p.Memsz, Align: p.Align}); got != l[i] {
				t.Fatalf("row %d: %v, not %v", seed, l[i], got)
			}
		}
		held++
	}
	if held < 500 {
		t.Errorf("just %d files were held against it", held)
	}
}

// wild: any headers at all, as no file would say them.
func (r *numbers) wild() api.Heads {
	number := func() uint64 { return []uint64{r.turn(0), r.turn(0), r.Next(), uint64(r.Below(600))}[r.Below(4)] }
	var h api.Heads
	for range r.Below(5) {
		h.Loads = append(h.Loads, api.Phdr{Type: uint32(r.Below(3)), Flags: uint32(r.Next()), Off: number(), Vaddr: number(), Filesz: number(), Memsz: number()})
	}
	return h
}

// P1: of any headers each call ends, and says nothing beside false.
func TestAnyHeads(t *testing.T) {
	b := make([]byte, 600)
	for seed := range uint64(20000) {
		r := row(seed)
		h := r.wild()
		for _, p := range h.Loads {
			if end := head.End(p); end%256 != 0 {
				t.Fatalf("row %d: End: %d", seed, end)
			}
		}
		if n := head.Span(h); n < 0 {
			t.Fatalf("row %d: Span: %d", seed, n)
		}
		for range 10 {
			at, size := r.turn(uint64(r.Below(600))), r.turn(uint64(r.Below(600)))
			off, ok := head.Off(h, at, size)
			part, has := head.Part(b, h, at, size)
			if !ok && off != 0 || has && (!ok || uint64(len(part)) != size) || !has && len(part) != 0 {
				t.Fatalf("row %d: Off(%d, %d): %d, %v; Part: %d, %v", seed, at, size, off, ok, len(part), has)
			}
			head.Inside(h, at, size)
		}
	}
}

// Of headers whose sums would wrap nothing goes round unseen.
func TestWildSums(t *testing.T) {
	for _, p := range []api.Phdr{{Vaddr: huge - 255, Memsz: 256}, {Vaddr: huge - 255, Memsz: 512}, {Vaddr: 512, Memsz: huge - 255}, {Memsz: huge}} {
		if end := head.End(p); end != 0 || head.Span(api.Heads{Loads: []api.Phdr{p}}) != 0 {
			t.Errorf("End of %v: %d", p, end)
		}
	}
	h := api.Heads{Loads: []api.Phdr{{Off: huge - 4, Filesz: 100}}}
	checkOff(t, h, 4, 1, huge, true)
	checkOff(t, h, 5, 1, 0, false)
	checkOff(t, h, 50, 1, 0, false)
	if part, ok := head.Part(make([]byte, 200), h, 50, 1); ok || len(part) != 0 {
		t.Error(part, ok)
	}
}
