package head_test

import (
	"bytes"
	"encoding/binary"
	"math"
	"slices"
	"testing"

	"messuage/api"
	"messuage/head"
)

const (
	page = 256
	most = 64 * page // bytes of a library's memory
	huge = math.MaxUint64
)

// load: a part at a place, whose bytes stand at the same place of the file.
func load(flags uint32, at, filesz, memsz uint64) api.Phdr {
	return api.Phdr{Type: 1, Flags: flags, Off: at, Vaddr: at, Filesz: filesz, Memsz: memsz, Align: page}
}

// dynamic: a dynamic section at a place.
func dynamic(at, size uint64) api.Phdr {
	return api.Phdr{Type: 2, Flags: 6, Off: at, Vaddr: at, Filesz: size, Memsz: size, Align: 8}
}

// relro: a read-only piece at a place.
func relro(at, size uint64) api.Phdr {
	return api.Phdr{Type: 0x6474e552, Flags: 4, Off: at, Vaddr: at, Filesz: size, Memsz: size, Align: 1}
}

// set16, set64: a file with another number at a place.
func set16(b []byte, at int, n uint16) []byte {
	b = slices.Clone(b)
	binary.LittleEndian.PutUint16(b[at:], n)
	return b
}

func set64(b []byte, at int, n uint64) []byte {
	b = slices.Clone(b)
	binary.LittleEndian.PutUint64(b[at:], n)
	return b
}

// lay: program headers, laid into a file at a place.
func lay(b []byte, at int, heads ...api.Phdr) []byte {
	row := []byte{}
	for _, p := range heads {
		row = binary.LittleEndian.AppendUint32(row, p.Type)
		row = binary.LittleEndian.AppendUint32(row, p.Flags)
		for _, n := range []uint64{p.Off, p.Vaddr, 0xabababababababab, p.Filesz, p.Memsz, p.Align} {
			row = binary.LittleEndian.AppendUint64(row, n)
		}
	}
	b = slices.Clone(b)
	copy(b[at:at+len(row)], row)
	return b
}

// bare: a file of so many bytes, with the header of a file that has many program headers at a place.
func bare(size int, place uint64, many int) []byte {
	b := make([]byte, size)
	for i := range b[64:] {
		b[64+i] = byte(7 * i)
	}
	copy(b, "\x7fELF\x02\x01\x01")
	b = set16(set16(b, 16, 3), 18, 62)
	b = set16(set16(set16(b, 52, 64), 54, 56), 56, uint16(many))
	return set64(b, 32, place)
}

// file: one of so many bytes, with program headers right behind its header.
func file(size int, heads ...api.Phdr) []byte {
	return lay(bare(size, 64, len(heads)), 64, heads...)
}

// plain: the program headers of a library of two parts, with all that may be.
func plain() []api.Phdr {
	return []api.Phdr{load(5, 0, 512, 512), load(6, 512, 600, 1100), dynamic(520, 64), relro(512, 256)}
}

// with: those headers, one of them turned.
func with(i int, turn func(p *api.Phdr)) []api.Phdr {
	l := plain()
	turn(&l[i])
	return l
}

func checkTable(t *testing.T, what string, b []byte, wantErr api.Errno, want ...api.Phdr) {
	t.Helper()
	if l, e := head.Table(b); !slices.Equal(l, want) || e != wantErr {
		t.Errorf("Table, %s: %v, %v, not %v, %v", what, l, e, want, wantErr)
	}
}

// none: does it say nothing at all?
func none(h api.Heads) bool {
	return h.Machine == 0 && len(h.Loads) == 0 && h.Dynamic == api.Phdr{} && h.Relro == api.Phdr{}
}

func checkErr(t *testing.T, what string, b []byte, want api.Errno) {
	t.Helper()
	if h, e := head.Parse(b); e != want || !none(h) {
		t.Errorf("Parse, %s: %v, %v, not %v", what, h, e, want)
	}
}

func same(a, b api.Heads) bool {
	return a.Machine == b.Machine && slices.Equal(a.Loads, b.Loads) && a.Dynamic == b.Dynamic && a.Relro == b.Relro
}

// checkRight: the headers may be, and are answered as they were laid.
func checkRight(t *testing.T, what string, size int, heads ...api.Phdr) api.Heads {
	t.Helper()
	want := api.Heads{Machine: 62}
	for _, p := range heads {
		switch p.Type {
		case 1:
			want.Loads = append(want.Loads, p)
		case 2:
			want.Dynamic = p
		case 0x6474e552:
			want.Relro = p
		}
	}
	h, e := head.Parse(file(size, heads...))
	if e != api.OK || !same(h, want) {
		t.Errorf("Parse, %s: %v, %v, not %v", what, h, e, want)
	}
	return h
}

// checkTurned: is a library right or wrong, of which one header is turned?
func checkTurned(t *testing.T, what string, want api.Errno, i int, turn func(p *api.Phdr)) {
	t.Helper()
	heads := with(i, turn)
	if want == api.OK {
		checkRight(t, what, 1112, heads...)
	} else {
		checkErr(t, what, file(1112, heads...), want)
	}
}

// P8.1, P8.2: no bytes.
func TestNoBytes(t *testing.T) {
	checkTable(t, "nil", nil, api.ErrMagic)
	checkTable(t, "empty", []byte{}, api.ErrMagic)
	checkErr(t, "nil", nil, api.ErrMagic)
	checkErr(t, "empty", []byte{}, api.ErrMagic)
}

// P8.2, P8.3: the chapter's library of two parts of one page each.
func TestTwoPages(t *testing.T) {
	second := load(6, 256, 256, 256)
	second.Off = 512
	b := file(768, load(4, 0, 256, 256), second, dynamic(256, 16))
	h, e := head.Parse(b)
	if e != api.OK || head.Span(h) != 2 {
		t.Fatal(h, e)
	}
	checkOff(t, h, 256, 1, 512, true)
}

// P8.1: fewer bytes than a header has, and just as many.
func TestShort(t *testing.T) {
	b := bare(64, 8, 1)
	for n := range 64 {
		checkTable(t, "cut", b[:n], api.ErrMagic)
		checkErr(t, "cut", b[:n], api.ErrMagic)
	}
	// A program header may stand within the file's header.
	want := api.Phdr{Type: 0, Flags: 0, Off: 62<<16 | 3, Vaddr: 0, Filesz: 0, Memsz: 64<<32 | 56<<48, Align: 1}
	checkTable(t, "64 bytes", b, api.OK, want)
	checkErr(t, "64 bytes", b, api.ErrLoad)
	checkTable(t, "64 bytes, none behind", bare(64, 64, 1), api.ErrHeads)
	checkTable(t, "64 bytes, no headers", bare(64, 64, 0), api.ErrHeads)
}

// P8.1: all that a program header says, in order, whatever it is.
func TestTable(t *testing.T) {
	heads := []api.Phdr{
		{Type: 0x04030201, Flags: 0x08070605, Off: 0x100f0e0d0c0b0a09, Vaddr: 0x1817161514131211, Filesz: 0x2827262524232221, Memsz: 0x302f2e2d2c2b2a29, Align: 0x3837363534333231},
		{Type: math.MaxUint32, Flags: math.MaxUint32, Off: huge, Vaddr: huge, Filesz: huge, Memsz: huge, Align: huge},
		{},
		{Type: 1, Flags: 2, Off: 3, Vaddr: 4, Filesz: 5, Memsz: 6, Align: 7},
		{Type: 1, Flags: 2, Off: 3, Vaddr: 4, Filesz: 5, Memsz: 6, Align: 7},
	}
	checkTable(t, "any numbers", file(64+5*56, heads...), api.OK, heads...)
	checkTable(t, "bytes behind", file(1000, heads...), api.OK, heads...)
	checkErr(t, "any numbers", file(1000, heads...), api.ErrLoad)
	for _, at := range []int{64, 65, 77, 100, 720} {
		checkTable(t, "elsewhere", lay(bare(1000, uint64(at), 5), at, heads...), api.OK, heads...)
	}
}

// P8.1: each byte of the header that is another one.
func TestOtherBytes(t *testing.T) {
	heads := plain()
	right := file(1112, heads...)
	want := func(at int, b []byte) api.Errno {
		switch {
		case at < 4:
			return api.ErrMagic
		case at < 7:
			return api.ErrClass
		case at == 16 || at == 17:
			return api.ErrType
		case (at == 18 || at == 19) && b[18] != 183:
			return api.ErrMachine
		case at >= 52 && at <= 55:
			return api.ErrHeads
		case at >= 34 && at <= 39: // 2^16 and more
			return api.ErrHeads
		case at == 33 && b[33] > 3: // 4 * 256, 64 and four headers
			return api.ErrHeads
		case at == 57 || at == 56 && (b[56] == 0 || b[56] > 16):
			return api.ErrHeads
		}
		return api.OK
	}
	for at := range 64 {
		for n := range 256 {
			b := slices.Clone(right)
			b[at] = byte(n)
			e := want(at, b)
			if byte(n) == right[at] {
				e = api.OK
			}
			if l, got := head.Table(b); got != e || e != api.OK && l != nil {
				t.Errorf("byte %d is %d: %v, %v, not %v", at, n, l, got, e)
			}
			if e != api.OK {
				checkErr(t, "another byte", b, e)
			} else if at != 18 && at != 32 && at != 33 && at != 56 {
				checkTable(t, "a byte that isn't asked", b, api.OK, heads...)
			}
		}
	}
}

// P8.1: all numbers of a type, a machine, of sizes and of how many there are.
func TestOtherNumbers(t *testing.T) {
	right := file(2000, plain()...)
	for n := range 1 << 16 {
		number := uint16(n)
		check := func(at int, wrong api.Errno, fine bool) {
			t.Helper()
			want := wrong
			if fine {
				want = api.OK
			}
			if _, e := head.Table(set16(right, at, number)); e != want {
				t.Errorf("%d at %d: %v, not %v", n, at, e, want)
			}
		}
		check(16, api.ErrType, n == 3)
		check(18, api.ErrMachine, n == 62 || n == 183)
		check(52, api.ErrHeads, n == 64)
		check(54, api.ErrHeads, n == 56)
		check(56, api.ErrHeads, n >= 1 && n <= 16)
	}
}

// P8.1: no program headers, one, sixteen and seventeen, in a file that has room for all.
func TestMany(t *testing.T) {
	for n := range 20 {
		heads := make([]api.Phdr, n)
		for i := range heads {
			heads[i] = api.Phdr{Type: uint32(i), Align: uint64(i)}
		}
		if n < 1 || n > 16 {
			checkTable(t, "too few or many", file(2000, heads...), api.ErrHeads)
			checkErr(t, "too few or many", file(2000, heads...), api.ErrHeads)
		} else {
			checkTable(t, "many", file(2000, heads...), api.OK, heads...)
		}
	}
	heads := plain()
	for len(heads) < 16 {
		heads = append(heads, api.Phdr{Type: 7})
	}
	checkRight(t, "sixteen", 1112, heads...)
	checkErr(t, "seventeen", file(1112, append(heads, api.Phdr{Type: 7})...), api.ErrHeads)
}

// P8.1: program headers that end just at the file's end, and behind it.
func TestAtTheEnd(t *testing.T) {
	for _, many := range []int{1, 2, 16} {
		heads := make([]api.Phdr, many)
		for i := range heads {
			heads[i].Type = uint32(100 + i)
		}
		size := many * 56
		for _, at := range []int{0, 1, 8, 64, 999} {
			end := max(at+size, 64)
			fits := lay(make([]byte, end), at, heads...)
			copy(fits, bare(64, uint64(at), many))
			if l, e := head.Table(fits); len(l) != many || e != api.OK {
				t.Errorf("%d at %d: %v, %v", many, at, l, e)
			}
			if end == at+size && end > 64 {
				checkTable(t, "one byte behind", fits[:end-1], api.ErrHeads)
				checkTable(t, "the place one further on", set64(fits, 32, uint64(at)+1), api.ErrHeads)
			}
		}
		b := bare(2000, 64, many)
		for _, at := range []uint64{2000, 2001, uint64(2001 - size), 1 << 32, 1<<32 + 64, 1 << 63, huge, huge - 55, huge - 63, -uint64(size), -uint64(size) + 40, -uint64(size) + 1} {
			checkTable(t, "far behind", set64(b, 32, at), api.ErrHeads)
		}
		if _, e := head.Table(set64(b, 32, uint64(2000-size))); e != api.OK {
			t.Error(many, e)
		}
	}
}

// P8.1: where several errors apply, the one that is named first.
func TestTableFirstError(t *testing.T) {
	b := bytes.Repeat([]byte{255}, 64)
	mend := []struct {
		at    int
		bytes string
		want  api.Errno
	}{
		{0, "\x7fEL", api.ErrMagic},
		{3, "F", api.ErrClass},
		{4, "\x02\x01", api.ErrClass},
		{6, "\x01", api.ErrType},
		{16, "\x03", api.ErrType},
		{17, "\x00", api.ErrMachine},
		{18, "\xb7", api.ErrMachine},
		{19, "\x00", api.ErrHeads},
		{52, "\x40\x00", api.ErrHeads},
		{54, "\x38\x00", api.ErrHeads},
		{56, "\x01\x00", api.ErrHeads},
		{32, "\x08\x00\x00\x00\x00\x00\x00\x00", api.OK},
	}
	checkTable(t, "all is wrong", b, api.ErrMagic)
	for _, m := range mend {
		copy(b[m.at:], m.bytes)
		if l, e := head.Table(b); e != m.want || e != api.OK && l != nil {
			t.Errorf("mended at %d: %v, %v, not %v", m.at, l, e, m.want)
		}
		if m.want != api.OK {
			checkErr(t, "mended so far", b, m.want)
		}
	}
}

// P8.2: what a library with all that may be says.
func TestParse(t *testing.T) {
	h := checkRight(t, "plain", 1112, plain()...)
	if len(h.Loads) != 2 || h.Loads[1].Memsz != 1100 || h.Dynamic.Vaddr != 520 || h.Relro.Memsz != 256 {
		t.Error(h)
	}
	h, e := head.Parse(set16(file(1112, plain()...), 18, 183))
	if e != api.OK || h.Machine != 183 {
		t.Error(h, e)
	}
	l := plain()
	checkRight(t, "another order", 1112, l[3], l[0], l[2], l[1])
	checkRight(t, "the parts last", 1112, l[2], l[3], l[0], l[1])
	checkRight(t, "no read-only piece", 1112, l[:3]...)
	checkRight(t, "one part", 1112, load(6, 0, 1112, 1112), dynamic(256, 16))
}

// P8.2: program headers of other types say nothing, whatever stands there.
func TestOtherTypes(t *testing.T) {
	for _, kind := range []uint32{0, 3, 4, 5, 6, 7, 256 + 1, 1<<16 + 1, 1<<31 + 2, 0x6474e550, 0x6474e551, 0x6474e553, math.MaxUint32} {
		wild := api.Phdr{Type: kind, Flags: 99, Off: huge, Vaddr: 3, Filesz: huge, Memsz: huge}
		checkRight(t, "other types", 1112, append(append([]api.Phdr{wild}, plain()...), wild)...)
		// Of such a type no header takes the place of one.
		checkErr(t, "no part", file(1112, api.Phdr{Type: kind, Memsz: 9, Filesz: 9}, dynamic(0, 8)), api.ErrLoad)
	}
}

// P8.2: a part's Vaddr and Off are pages' beginnings.
func TestPartPlaces(t *testing.T) {
	for n := range uint64(513) {
		want := api.ErrLoad
		if n%256 == 0 {
			want = api.OK
		}
		for i := range 2 {
			checkTurned(t, "Off", want, i, func(p *api.Phdr) {
				p.Off = n
				p.Filesz = min(p.Filesz, 580)
			})
		}
		third := load(4, 1792+n, 0, 256)
		third.Off = 0
		heads := append(plain(), third)
		if want == api.OK {
			checkRight(t, "Vaddr", 1112, heads...)
		} else {
			checkErr(t, "Vaddr", file(1112, heads...), want)
		}
	}
}

// P8.2: a part's Flags are 7 at most.
func TestPartFlags(t *testing.T) {
	for n := range uint32(64) {
		want := api.OK
		if n > 7 {
			want = api.ErrLoad
		}
		checkTurned(t, "Flags", want, 0, func(p *api.Phdr) { p.Flags = n })
	}
	for _, n := range []uint32{1 << 31, 1<<31 + 6, 256 + 4, math.MaxUint32} {
		checkTurned(t, "Flags", api.ErrLoad, 0, func(p *api.Phdr) { p.Flags = n })
		checkTurned(t, "Flags", api.ErrLoad, 1, func(p *api.Phdr) { p.Flags = n })
	}
}

// P8.2: a part's bytes of memory: none, one, 64 pages, and more.
func TestPartMemory(t *testing.T) {
	first := func(filesz, memsz uint64) []api.Phdr {
		return []api.Phdr{load(6, 0, filesz, memsz), dynamic(0, 8)}
	}
	checkRight(t, "64 pages", most, first(256, most)...)
	checkRight(t, "64 pages of the file", most, first(most, most)...)
	checkRight(t, "one byte less", most, first(256, most-1)...)
	for _, n := range []uint64{most + 1, most + 256, 2 * most, 1 << 32, 1<<32 + 1, 1 << 63, huge - 255, huge} {
		checkErr(t, "more", file(most+256, first(256, n)...), api.ErrLoad)
	}
	checkErr(t, "none", file(most, first(0, 0)...), api.ErrLoad)
	one := []api.Phdr{load(6, 0, 256, 256), dynamic(0, 8), load(6, 256, 0, 1)}
	checkRight(t, "one", 256, one...)
	one[2].Memsz = 0
	checkErr(t, "none, of the second", file(256, one...), api.ErrLoad)
	checkErr(t, "none, but bytes of the file", file(512, load(6, 0, 256, 0), dynamic(0, 8)), api.ErrLoad)
}

// P8.2: a part's bytes of the file: none, as many as of memory, and more; up to the file's end, and behind it.
func TestPartFile(t *testing.T) {
	heads := func(off, filesz, memsz uint64) []api.Phdr {
		p := load(4, 256, filesz, memsz)
		p.Off = off
		return []api.Phdr{load(6, 0, 256, 256), dynamic(0, 8), p}
	}
	checkRight(t, "as many", 1024, heads(256, 300, 300)...)
	checkRight(t, "one fewer", 1024, heads(256, 299, 300)...)
	checkErr(t, "one more", file(1024, heads(256, 301, 300)...), api.ErrLoad)
	checkRight(t, "none", 1024, heads(256, 0, 300)...)
	checkRight(t, "none, at 0", 1024, heads(0, 0, 300)...)
	checkRight(t, "none, at the end", 1024, heads(1024, 0, 300)...)
	checkErr(t, "none, behind the end", file(1024, heads(1280, 0, 300)...), api.ErrLoad)
	checkErr(t, "none, far behind", file(1024, heads(huge-255, 0, 300)...), api.ErrLoad)
	for n := 512; n < 900; n++ {
		if fits := n >= 812; fits {
			checkRight(t, "up to the end", n, heads(512, 300, 300)...)
		} else {
			checkErr(t, "behind the end", file(n, heads(512, 300, 300)...), api.ErrLoad)
		}
	}
	for _, off := range []uint64{1024, 1 << 32, 1 << 63, huge - 255, huge - 511} {
		for _, size := range []uint64{1, 255, 256, 257, 512, 513} {
			checkErr(t, "far behind", file(1024, heads(off, size, 600)...), api.ErrLoad)
		}
	}
	checkErr(t, "as many as there may be", file(1024, heads(256, huge, huge)...), api.ErrLoad)
	checkErr(t, "so many that the sum is small", file(1024, heads(256, huge-200, huge)...), api.ErrLoad)
	// Parts may have bytes of the file in common.
	checkRight(t, "the same bytes", 1024, heads(0, 256, 256)...)
}

// P8.2: the first part is at 0, others not below the end of the one ahead.
func TestPartOrder(t *testing.T) {
	at := func(vaddr, memsz uint64) api.Phdr {
		return api.Phdr{Type: 1, Flags: 6, Vaddr: vaddr, Filesz: min(memsz, 16), Memsz: memsz}
	}
	dyn := func(at uint64) api.Phdr { return dynamic(at, 16) }
	checkRight(t, "at 0", 1024, at(0, 16), dyn(0))
	for _, n := range []uint64{256, 512, most - 256, most, 1 << 32, huge - 255} {
		checkErr(t, "not at 0", file(1024, at(n, 16), dyn(n)), api.ErrLoad)
		checkErr(t, "the one at 0 behind", file(1024, at(n, 16), at(0, 16), dyn(0)), api.ErrLoad)
	}
	for _, size := range []uint64{1, 255, 256, 257, 511, 512, 513} {
		for _, place := range []uint64{0, 256, 512, 768, 1024} {
			end := (size + 255) / 256 * 256
			heads := []api.Phdr{at(0, size), at(place, 300), dyn(place)}
			if place >= end {
				checkRight(t, "behind or apart", 1024, heads...)
			} else {
				checkErr(t, "a page in common", file(1024, heads...), api.ErrLoad)
			}
		}
	}
	checkRight(t, "three", 1024, at(0, 1), at(256, 257), at(768, 1), dyn(256))
	checkErr(t, "the third is below", file(1024, at(0, 1), at(512, 257), at(256, 1), dyn(512)), api.ErrLoad)
	checkErr(t, "the third is within", file(1024, at(0, 1), at(256, 257), at(512, 1), dyn(256)), api.ErrLoad)
	checkErr(t, "the third is the second", file(1024, at(0, 16), at(256, 1), at(256, 1), dyn(0)), api.ErrLoad)
	checkErr(t, "the third is the first", file(1024, at(0, 16), at(256, 1), at(0, 1), dyn(0)), api.ErrLoad)
}

// P8.2: the end of no part is above 64 pages.
func TestPartEnd(t *testing.T) {
	heads := func(vaddr, memsz uint64) []api.Phdr {
		return []api.Phdr{load(6, 0, 256, 256), dynamic(0, 16), {Type: 1, Flags: 4, Vaddr: vaddr, Memsz: memsz}}
	}
	checkRight(t, "the last page", 1024, heads(most-256, 256)...)
	checkRight(t, "a byte of it", 1024, heads(most-256, 1)...)
	checkRight(t, "all pages but the first", 1024, heads(256, most-256)...)
	checkErr(t, "a byte more", file(1024, heads(most-256, 257)...), api.ErrLoad)
	checkErr(t, "a byte more, of all pages", file(1024, heads(256, most-255)...), api.ErrLoad)
	checkErr(t, "64 pages, from the second on", file(1024, heads(256, most)...), api.ErrLoad)
	for _, at := range []uint64{most, most + 256, 1 << 32, 1 << 40, 1 << 63, huge - 255, huge - most + 1} {
		for _, size := range []uint64{1, 255, 256, 257, most - 256, most - 1, most} {
			checkErr(t, "behind", file(1024, heads(at, size)...), api.ErrLoad)
		}
	}
}

// P8.2: a library without a part, and errors of parts, of dynamic sections and of read-only pieces at one time.
func TestParseFirstError(t *testing.T) {
	l := plain()
	checkErr(t, "no part", file(1112, dynamic(0, 16)), api.ErrLoad)
	checkErr(t, "no part and nothing else", file(1112, api.Phdr{}), api.ErrLoad)
	checkErr(t, "no part, two sections", file(1112, l[2], l[2], l[3], l[3]), api.ErrLoad)
	bad := load(8, 512, 600, 1100)
	checkErr(t, "part ahead of section", file(1112, l[2], l[2], l[0], bad), api.ErrLoad)
	checkErr(t, "part ahead of piece", file(1112, l[3], l[3], l[0], bad, l[2]), api.ErrLoad)
	checkErr(t, "section ahead of piece", file(1112, l[3], l[3], l[0], l[1]), api.ErrDynamic)
	checkErr(t, "section ahead of piece", file(1112, relro(0, 0), l[0], l[1], dynamic(520, 0)), api.ErrDynamic)
	checkErr(t, "two sections ahead of piece", file(1112, l[0], relro(0, 0), l[1], l[2], l[2]), api.ErrDynamic)
	checkErr(t, "piece", file(1112, l[0], relro(0, 0), l[1], l[2]), api.ErrRelro)
	// A later part is asked ahead of the section, too.
	checkErr(t, "a later part", file(1112, l[0], l[1], load(4, 2048, 0, 1)), api.ErrLoad)
}

// P8.2: just one dynamic section, of at least one byte, at a multiple of 8.
func TestDynamic(t *testing.T) {
	l := plain()
	checkErr(t, "none", file(1112, l[0], l[1]), api.ErrDynamic)
	checkErr(t, "none, but a piece", file(1112, l[0], l[1], l[3]), api.ErrDynamic)
	checkErr(t, "two", file(1112, l[0], l[1], l[2], dynamic(600, 16)), api.ErrDynamic)
	checkErr(t, "the same twice", file(1112, l[0], l[1], l[2], l[2]), api.ErrDynamic)
	checkErr(t, "a second that may not be", file(1112, l[0], l[1], l[2], dynamic(0, 0)), api.ErrDynamic)
	checkErr(t, "a first that may not be", file(1112, dynamic(0, 0), l[0], l[1], l[2]), api.ErrDynamic)
	checkErr(t, "three", file(1112, l[0], l[1], l[2], l[2], l[2]), api.ErrDynamic)
	for n := range uint64(20) {
		want := api.ErrDynamic
		if n%8 == 0 {
			want = api.OK
		}
		checkTurned(t, "Vaddr", want, 2, func(p *api.Phdr) { p.Vaddr = 520 + n })
		size := api.OK
		if n == 0 {
			size = api.ErrDynamic
		}
		checkTurned(t, "Filesz", size, 2, func(p *api.Phdr) { p.Filesz = n })
	}
	// What else its header says isn't asked: where it stands is told by its part.
	checkTurned(t, "all else", api.OK, 2, func(p *api.Phdr) { p.Flags, p.Off, p.Memsz, p.Align = 99, huge, 0, 3 })
	checkTurned(t, "all else", api.OK, 2, func(p *api.Phdr) { p.Flags, p.Off, p.Memsz, p.Align = 0, 0, huge, 0 })
}

// P8.2: the dynamic section lies in one part's bytes of the file.
func TestDynamicPlace(t *testing.T) {
	check := func(what string, at, size uint64, want api.Errno) {
		t.Helper()
		checkTurned(t, what, want, 2, func(p *api.Phdr) { p.Vaddr, p.Filesz = at, size })
	}
	check("all of the first part", 0, 512, api.OK)
	check("over both", 0, 513, api.ErrDynamic)
	check("over both", 504, 16, api.ErrDynamic)
	check("at the first one's end", 504, 8, api.OK)
	check("all of the second part", 512, 600, api.OK)
	check("a byte past its file's", 512, 601, api.ErrDynamic)
	check("at its end", 1104, 8, api.OK)
	check("at its end, a byte more", 1104, 9, api.ErrDynamic)
	check("behind its file's", 1112, 1, api.ErrDynamic)
	check("in its memory", 1120, 8, api.ErrDynamic)
	check("behind its memory", 1616, 8, api.ErrDynamic)
	check("behind all", 1<<40, 8, api.ErrDynamic)
	check("none in no part", 1<<40, 0, api.ErrDynamic)
	for _, at := range []uint64{0, 8, 512, 520} {
		for _, size := range []uint64{1 << 32, 1 << 63, huge, huge - at, huge - at + 1, huge - at + 2, -at + 16} {
			if size > 600 {
				check("so great that a sum wraps", at, size, api.ErrDynamic)
			}
		}
	}
	for _, size := range []uint64{1, 8, 9, 16, 520, 528} {
		check("so far that a sum wraps", huge-7, size, api.ErrDynamic)
	}
	// Its part may be any that the file has bytes of, whatever its Flags.
	checkTurned(t, "no Flags", api.OK, 0, func(p *api.Phdr) { p.Flags = 0 })
	checkErr(t, "between parts", file(1112, load(6, 0, 256, 256), load(6, 512, 256, 256), dynamic(256, 8)), api.ErrDynamic)
}

// P8.2: no read-only piece, one, two, and one that may not be.
func TestRelro(t *testing.T) {
	l := plain()
	if h := checkRight(t, "none", 1112, l[:3]...); h.Relro != (api.Phdr{}) {
		t.Error(h.Relro)
	}
	checkErr(t, "the same twice", file(1112, append(l, l[3])...), api.ErrRelro)
	checkErr(t, "two", file(1112, append(l, relro(768, 256))...), api.ErrRelro)
	checkErr(t, "a second that may not be", file(1112, append(l, relro(0, 0))...), api.ErrRelro)
	checkErr(t, "a first that may not be", file(1112, append([]api.Phdr{relro(0, 0)}, l...)...), api.ErrRelro)
	checkTurned(t, "no bytes", api.ErrRelro, 3, func(p *api.Phdr) { p.Memsz = 0 })
	checkTurned(t, "all is 0 but its Type", api.ErrRelro, 3, func(p *api.Phdr) { *p = api.Phdr{Type: p.Type} })
	for n := range uint64(513) {
		want := api.ErrRelro
		if n%256 == 0 {
			want = api.OK
		}
		checkTurned(t, "Vaddr", want, 3, func(p *api.Phdr) { p.Vaddr = 512 + n })
	}
	checkTurned(t, "all else", api.OK, 3, func(p *api.Phdr) { p.Flags, p.Off, p.Filesz, p.Align = 99, huge, huge, 3 })
	checkTurned(t, "all else", api.OK, 3, func(p *api.Phdr) { p.Flags, p.Off, p.Filesz, p.Align = 0, 0, 0, 0 })
}

// P8.2: a read-only piece lies in the pages that one part touches, which can be written.
func TestRelroPlace(t *testing.T) {
	check := func(what string, at, size uint64, want api.Errno) {
		t.Helper()
		checkTurned(t, what, want, 3, func(p *api.Phdr) { p.Vaddr, p.Memsz = at, size })
	}
	// The second part has 1100 bytes from 512 on, and so touches the pages up to 1792.
	check("one byte", 512, 1, api.OK)
	check("all bytes", 512, 1100, api.OK)
	check("past them, in the last page", 512, 1101, api.OK)
	check("all pages", 512, 1280, api.OK)
	check("a byte past the pages", 512, 1281, api.ErrRelro)
	check("the last page", 1536, 256, api.OK)
	check("a byte past the last page", 1536, 257, api.ErrRelro)
	check("behind all", 1792, 1, api.ErrRelro)
	check("far behind", 1<<40, 1, api.ErrRelro)
	check("in the part that can't be written", 0, 256, api.ErrRelro)
	check("there, its last page", 256, 256, api.ErrRelro)
	check("over both parts", 256, 257, api.ErrRelro)
	check("over both parts, all", 0, 1792, api.ErrRelro)
	for _, size := range []uint64{1 << 32, 1 << 63, huge, huge - 511, huge - 510, huge - 512, huge - 255} {
		check("so great that a sum wraps", 512, size, api.ErrRelro)
	}
	for _, size := range []uint64{1, 255, 256, 257, 513, 768, 1024} {
		check("so far that a sum wraps", huge-255, size, api.ErrRelro)
	}
	both := []api.Phdr{load(6, 0, 512, 512), load(6, 512, 600, 1100), dynamic(0, 16)}
	checkErr(t, "over two that can be written", file(1112, append(both, relro(256, 512))...), api.ErrRelro)
	checkRight(t, "in the first of them", 1112, append(both, relro(0, 512))...)
	checkRight(t, "in the second of them", 1112, append(both, relro(768, 512))...)
	apart := []api.Phdr{load(6, 0, 256, 256), load(6, 768, 0, 1), dynamic(0, 16)}
	checkErr(t, "between them", file(1112, append(apart, relro(256, 256))...), api.ErrRelro)
	checkErr(t, "from between them on", file(1112, append(apart, relro(512, 512))...), api.ErrRelro)
	checkErr(t, "into what lies between", file(1112, append(apart, relro(0, 257))...), api.ErrRelro)
	checkRight(t, "in a part without bytes of the file", 1112, append(apart, relro(768, 256))...)
	for flags := range uint32(8) {
		heads := with(1, func(p *api.Phdr) { p.Flags = flags })
		if flags == 2 || flags == 3 || flags == 6 || flags == 7 {
			checkRight(t, "Flags with W", 1112, heads...)
		} else {
			checkErr(t, "Flags without W", file(1112, heads...), api.ErrRelro)
			checkRight(t, "Flags without W, no piece", 1112, heads[:3]...)
		}
	}
}

func checkOff(t *testing.T, h api.Heads, at, size, want uint64, wantOK bool) {
	t.Helper()
	if n, ok := head.Off(h, at, size); n != want || ok != wantOK {
		t.Errorf("Off(%d, %d): %d, %v, not %d, %v", at, size, n, ok, want, wantOK)
	}
}

// laid: a library of three parts, whose bytes stand elsewhere in the file than in memory, and its bytes.
func laid(t *testing.T) ([]byte, api.Heads) {
	t.Helper()
	heads := []api.Phdr{load(6, 0, 256, 256), load(4, 256, 300, 600), load(4, 1280, 0, 5), dynamic(0, 16)}
	heads[0].Off, heads[1].Off, heads[2].Off = 1024, 512, 256
	b := file(1280, heads...)
	h, e := head.Parse(b)
	if e != api.OK {
		t.Fatal(e)
	}
	return b, h
}

// P8.3: where bytes of memory stand in the file.
func TestOff(t *testing.T) {
	_, h := laid(t)
	checkOff(t, h, 0, 1, 1024, true)
	checkOff(t, h, 0, 256, 1024, true)
	checkOff(t, h, 0, 257, 0, false)
	checkOff(t, h, 255, 1, 1279, true)
	checkOff(t, h, 255, 2, 0, false)
	checkOff(t, h, 256, 1, 512, true)
	checkOff(t, h, 256, 300, 512, true)
	checkOff(t, h, 256, 301, 0, false)
	checkOff(t, h, 555, 1, 811, true)
	checkOff(t, h, 555, 2, 0, false)
	checkOff(t, h, 556, 1, 0, false)
	checkOff(t, h, 855, 1, 0, false)
	checkOff(t, h, 856, 1, 0, false)
	checkOff(t, h, 1280, 1, 0, false)
	checkOff(t, h, huge, 1, 0, false)
	checkOff(t, h, huge, 2, 0, false)
	checkOff(t, h, huge, 258, 0, false)
	checkOff(t, h, huge, huge, 0, false)
	checkOff(t, h, 1, huge, 0, false)
	checkOff(t, h, 2, huge, 0, false)
	checkOff(t, h, 300, huge-43, 0, false)
	checkOff(t, h, 300, huge-299, 0, false)
	checkOff(t, h, 0, huge, 0, false)
}

// P8.3: no bytes: the first part that has the place, or ends there.
func TestOffOfNoBytes(t *testing.T) {
	_, h := laid(t)
	checkOff(t, h, 0, 0, 1024, true)
	checkOff(t, h, 255, 0, 1279, true)
	checkOff(t, h, 256, 0, 1280, true)
	checkOff(t, h, 257, 0, 513, true)
	checkOff(t, h, 556, 0, 812, true)
	checkOff(t, h, 557, 0, 0, false)
	checkOff(t, h, 1279, 0, 0, false)
	checkOff(t, h, 1280, 0, 256, true)
	checkOff(t, h, 1281, 0, 0, false)
	checkOff(t, h, huge, 0, 0, false)
}

// P8.3: do bytes lie in one part's memory?
func TestInside(t *testing.T) {
	_, h := laid(t)
	check := func(at, size uint64, want bool) {
		t.Helper()
		if got := head.Inside(h, at, size); got != want {
			t.Errorf("Inside(%d, %d): %v", at, size, got)
		}
	}
	check(0, 256, true)
	check(0, 257, false)
	check(255, 1, true)
	check(255, 2, false)
	check(256, 600, true)
	check(256, 601, false)
	check(555, 2, true)
	check(556, 300, true)
	check(855, 1, true)
	check(855, 2, false)
	check(856, 0, true)
	check(856, 1, false)
	check(857, 0, false)
	check(1023, 1, false)
	check(1279, 1, false)
	check(1279, 0, false)
	check(1280, 0, true)
	check(1280, 5, true)
	check(1280, 6, false)
	check(1284, 1, true)
	check(1285, 0, true)
	check(1285, 1, false)
	check(1286, 0, false)
	check(huge, 0, false)
	check(huge, 1, false)
	check(huge, 2, false)
	check(huge, huge, false)
	check(0, huge, false)
	check(1, huge, false)
	check(256, huge-255, false)
	check(300, huge-298, false)
}

// P8.3: a part's end, and how many pages there are up to the last one's.
func TestEndAndSpan(t *testing.T) {
	for vaddr := uint64(0); vaddr < most; vaddr += 256 {
		for _, size := range []uint64{1, 2, 255, 256, 257, 300, 512, 513, most} {
			pages := (size + 255) / 256
			p := load(6, vaddr, 0, size)
			if got := head.End(p); got != vaddr+256*pages {
				t.Errorf("End of %d, %d: %d", vaddr, size, got)
			}
		}
	}
	_, h := laid(t)
	if n := head.Span(h); n != 6 {
		t.Error(n)
	}
	h = checkRight(t, "one page", 1112, load(6, 0, 256, 256), dynamic(0, 8))
	if n := head.Span(h); n != 1 {
		t.Error(n)
	}
	last := api.Phdr{Type: 1, Vaddr: most - 256, Memsz: 1}
	h = checkRight(t, "64 pages", 1112, load(6, 0, 256, 256), last, dynamic(0, 8))
	if n := head.Span(h); n != 64 {
		t.Error(n)
	}
	if n := head.Span(api.Heads{}); n != 0 {
		t.Error(n)
	}
}

// P8.3: bytes of memory, out of the file.
func TestPart(t *testing.T) {
	b, h := laid(t)
	check := func(at, size uint64, want []byte, wantOK bool) {
		t.Helper()
		if got, ok := head.Part(b, h, at, size); !bytes.Equal(got, want) || ok != wantOK {
			t.Errorf("Part(%d, %d): %v, %v, not %v, %v", at, size, got, ok, want, wantOK)
		}
	}
	check(0, 256, b[1024:1280], true)
	check(255, 1, b[1279:1280], true)
	check(255, 2, nil, false)
	check(256, 300, b[512:812], true)
	check(256, 301, nil, false)
	check(300, 8, b[556:564], true)
	check(556, 1, nil, false)
	check(256, 0, nil, true)
	check(556, 0, nil, true)
	check(557, 0, nil, false)
	check(1280, 0, nil, true)
	check(1280, 1, nil, false)
	check(huge, 1, nil, false)
	check(huge, 2, nil, false)
	check(1, huge, nil, false)
}

// What is answered is new memory, what is handed in isn't changed, and what lies behind its length isn't read.
func TestMemory(t *testing.T) {
	b, h := laid(t)
	before := slices.Clone(b)
	loads := slices.Clone(h.Loads)
	got, _ := head.Part(b, h, 0, 16)
	table, _ := head.Table(b)
	if !bytes.Equal(b, before) || !slices.Equal(h.Loads, loads) {
		t.Error("what was handed in has changed")
	}
	clear(b)
	if !bytes.Equal(got, before[1024:1040]) || !slices.Equal(h.Loads, loads) || !slices.Equal(table[:3], loads) {
		t.Error("it has changed with the bytes")
	}
	for i := range got {
		got[i]++
	}
	if !bytes.Equal(b, make([]byte, len(b))) {
		t.Error("the bytes have changed with it")
	}
	for n := range len(before) {
		if _, e := head.Parse(before[:n]); e == api.OK {
			t.Errorf("its last bytes lie behind %d", n)
		}
	}
	if _, ok := head.Part(before[:1279], h, 0, 256); ok {
		t.Error("its last byte lies behind the bytes")
	}
}
