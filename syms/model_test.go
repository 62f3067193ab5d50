package syms_test

import (
	"bytes"
	"cmp"
	"debug/elf"
	"encoding/binary"
	"math"
	"math/big"
	"math/bits"
	"slices"
	"strconv"
	"strings"
	"testing"

	"messuage/api"
	"messuage/dyn"
	"messuage/head"
	"messuage/mold"
	"messuage/rows"
	"messuage/syms"
)

// oldSum, newSum: the sums of a name by the chapter's words, reckoned with numbers of any size.
func oldSum(name string) uint32 {
	n := big.NewInt(0)
	for _, c := range []byte(name) {
		n.Mul(n, big.NewInt(16))
		n.Add(n, big.NewInt(int64(c)))
		n.Mod(n, big.NewInt(1<<32))
		upper := new(big.Int).Div(n, big.NewInt(1<<28))
		n.Mod(n, big.NewInt(1<<28))
		n.Xor(n, upper.Mul(upper, big.NewInt(16)))
	}
	return uint32(n.Uint64())
}

func newSum(name string) uint32 {
	n := big.NewInt(5381)
	for _, c := range []byte(name) {
		n.Mul(n, big.NewInt(33))
		n.Add(n, big.NewInt(int64(c)))
	}
	return uint32(n.Mod(n, big.NewInt(1<<32)).Uint64())
}

// model is a library by the words of chapters 8 to 10.
type model struct {
	*mold.Memory
	h api.Heads
	d api.Dyn
}

// number: that of so many bytes, so far behind a place.
func (m model) number(at, behind, size uint64) (uint64, bool) {
	at, over := bits.Add64(at, behind, 0)
	row, ok := m.Row(at, size)
	if !ok || over != 0 {
		return 0, false
	}
	n := uint64(0)
	for i := range size {
		n += uint64(row[i]) << (8 * i)
	}
	return n, true
}

// word: the word that so many others are ahead of from a place on; -1, if it isn't there.
func (m model) word(at uint64, ahead int) int {
	n, ok := m.number(at, 4*uint64(ahead), 4)
	if !ok {
		return -1
	}
	return int(n)
}

// table is a newer table by the chapter's words.
type table struct {
	m                         model
	rows, first, words, shift int
}

func (m model) newer() (table, bool) {
	at := m.d.GnuHash
	x := table{m, m.word(at, 0), m.word(at, 1), m.word(at, 2), m.word(at, 3)}
	within := func(n, from, to int) bool { return n >= from && n <= to }
	return x, within(x.rows, 1, 256) && within(x.first, 1, 256) && slices.Contains([]int{1, 2, 4, 8, 16, 32, 64}, x.words) && within(x.shift, 0, 31)
}

func (x table) row(i int) int { return x.m.word(x.m.d.GnuHash, 4+2*x.words+i) }
func (x table) own(i int) int { return x.m.word(x.m.d.GnuHash, 4+2*x.words+x.rows+i-x.first) }

// bit: is a bit of a filter word 1?
func (x table) bit(word, bit int) bool {
	n, ok := x.m.number(x.m.d.GnuHash, 16+8*uint64(word), 8)
	return ok && n&(1<<bit) != 0
}

// many: how many symbols there are; -1, if that is ErrHash.
func (m model) many() int {
	if m.d.Hash != 0 {
		if m.word(m.d.Hash, 0) < 0 {
			return -1
		}
		return m.word(m.d.Hash, 1)
	}
	x, ok := m.newer()
	if !ok {
		return -1
	}
	most := x.first
	for i := range x.rows {
		begin := x.row(i)
		if begin < 0 || begin > 0 && begin < x.first {
			return -1
		}
		if begin == 0 || begin < most {
			continue
		}
		for number := begin; ; number++ {
			if number > 256 || x.own(number) < 0 {
				return -1
			}
			if x.own(number)%2 == 1 {
				most = number + 1
				break
			}
		}
	}
	return most
}

// symbols: what the records say; false: they may not be.
func (m model) symbols(many int) ([]api.Sym, bool) {
	if many < 1 || many > 256 {
		return nil, false
	}
	records, ok := m.Row(m.d.Symtab, 24*uint64(many))
	texts, has := m.Row(m.d.Strings.At, m.d.Strings.Size)
	if !ok || !has || strings.Trim(records[:24], "\x00") != "" {
		return nil, false
	}
	var file struct {
		Name        uint32
		Info, Other byte
		Where       uint16
		Value, Size uint64
	}
	last := m.h.Loads[len(m.h.Loads)-1]
	pages := (last.Vaddr + last.Memsz + 255) / 256
	l := []api.Sym{{}}
	for _, record := range slices.Collect(slices.Chunk([]byte(records), 24))[1:] {
		if err := binary.Read(bytes.NewReader(record), binary.LittleEndian, &file); err != nil {
			panic(err)
		}
		name, ok := mold.Text(texts, uint64(file.Name))
		s := api.Sym{Name: name, Bind: int(file.Info >> 4), Defined: file.Where > 0, Value: file.Value, Size: file.Size}
		switch {
		case !ok, name == "", s.Bind > 2, file.Info&15 > 2:
			return nil, false
		case s.Defined && s.Value/256 >= pages:
			return nil, false
		case !s.Defined && (s.Value > 0 || s.Bind == 0):
			return nil, false
		}
		l = append(l, s)
	}
	return l, true
}

// oldLeads: does the older table lead to a symbol? All that one comes to is gathered.
func (m model) oldLeads(many, number int, name string) bool {
	rows := m.word(m.d.Hash, 0)
	met := map[int]bool{}
	for next := m.word(m.d.Hash, 2+int(oldSum(name))%rows); next > 0 && next < many && !met[next]; next = m.word(m.d.Hash, 2+rows+next) {
		met[next] = true
	}
	return met[number]
}

// newLeads: does the newer table lead to a symbol?
func (x table) newLeads(number int, name string) bool {
	s := int(newSum(name))
	word := s / 64 % x.words
	if !x.bit(word, s%64) || !x.bit(word, s>>x.shift%64) {
		return false
	}
	begin := x.row(s % x.rows)
	if begin < x.first || begin > number {
		return false
	}
	for i := begin; i <= number; i++ {
		if x.own(i) < 0 || i < number && x.own(i)%2 == 1 {
			return false
		}
	}
	return x.own(number)/2 == s/2
}

// read: the symbols of a library by the chapter's words.
func (m model) read() ([]api.Sym, api.Errno) {
	many := m.many()
	if many < 0 {
		return nil, api.ErrHash
	}
	l, ok := m.symbols(many)
	if !ok {
		return nil, api.ErrSymtab
	}
	rows := m.word(m.d.Hash, 0)
	if m.d.Hash != 0 && (rows < 1 || rows > 256) {
		return nil, api.ErrHash
	}
	x, can := m.newer()
	if m.d.GnuHash != 0 && !can {
		return nil, api.ErrHash
	}
	for i, s := range l {
		if !s.Defined || s.Bind == 0 {
			continue
		}
		if m.d.Hash != 0 && !m.oldLeads(many, i, s.Name) || m.d.GnuHash != 0 && !x.newLeads(i, s.Name) {
			return nil, api.ErrHash
		}
	}
	return l, api.OK
}

// numbers is a row of numbers, and what is made of them here.
type numbers struct{ *rows.Row }

func row(seed uint64) *numbers { return &numbers{rows.New(seed)} }

// one: any of some numbers.
func (r *numbers) one(l ...uint64) uint64 { return l[r.Below(len(l))] }

// value: any number, small ones and those at edges more often.
func (r *numbers) value() uint64 {
	return []uint64{r.Next(), uint64(r.Below(300)), r.one(0, 1, 2, 255, 256, 257, spanEnd-1, spanEnd, 1<<32-1, 1<<32, 1<<63, huge-7, huge)}[r.Below(3)]
}

// symbol: any that may be.
func (r *numbers) symbol() sym {
	name := r.Text("a", "b", "f", "abc", "printf", "~!", "_ZN3fooE", "x"+strconv.Itoa(r.Below(1000)), strings.Repeat("k", 60+r.Below(5)))
	kind := byte(r.Below(3))
	if r.Below(4) == 0 {
		return sym{name, 16*byte(1+r.Below(2)) + kind, 0, 0, r.value()}
	}
	return sym{name, 16*byte(r.one(0, 1, 1, 2, 2)) + kind, uint16(1 + r.Below(0xffff)), uint64(r.Below(spanEnd)), r.value()}
}

// symbols: any that may be, a few or about as many as there may be.
func (r *numbers) symbols() []sym {
	n := r.Below(12)
	if r.Below(100) == 0 {
		n = 252 + r.Below(6)
	}
	l := make([]sym, n)
	for i := range l {
		l[i] = r.symbol()
		if n > 12 {
			l[i].name = l[i].name[:1]
		}
	}
	return l
}

// grouped: the symbols as linkers lay them down: ahead those that can't be had, then row by row of the newer table.
func grouped(l []sym, rows uint32) []sym {
	slices.SortStableFunc(l, func(a, b sym) int { return cmp.Compare(place(a, rows), place(b, rows)) })
	return l
}

// place: where a symbol comes in that order.
func place(s sym, rows uint32) int64 {
	if !s.may() {
		return -1
	}
	return int64(newSum(s.name) % rows)
}

// right: any library that may be.
func (r *numbers) right() *lib {
	g := gnu{rows: uint32(r.one(1, 2, 3, 5, 17, 256)), words: 1 << r.Below(7), shift: uint32(r.Below(32))}
	l := r.symbols()
	together := r.Below(2) == 0
	if together {
		l = grouped(l, g.rows)
	}
	x := write(uint32(r.one(1, 1, 2, 3, 4, 256)), g, l...)
	if together {
		for i := int(x.gnu.first); i < len(l); i++ {
			if place(l[i-1], g.rows) != place(l[i], g.rows) {
				x.put(x.own(i), x.get(x.own(i))|1)
			}
		}
	}
	switch r.Below(4) {
	case 0:
		x.only(olderTag)
	case 1:
		x.only(newerTag)
	}
	return x
}

// shift: the library with one of its parts cut in two, so that a table may lie in both, or shorter in the file, so that a table's end may be lost.
func (r *numbers) shift(x *lib) {
	switch r.Below(3) {
	case 0:
		x.twoParts(uint64(r.one(29, 30, 31, 36, 37, 38, 40, 46)) * 256)
	case 1:
		x.Loads[2].Filesz -= uint64(r.Below(thirdEnd - stringsAt - 100))
	case 2:
		size := uint64(r.Below(300))
		tag := r.one(4, 6, 0x6ffffef5)
		if from, ok := x.Tags[tag]; ok {
			x.Tags[tag] = r.one(thirdEnd-size, 37*256-size, 10000+size)
			x.Move(from, x.Tags[tag], 200)
		}
	}
}

// spoil: the library with something turned that may matter.
func (r *numbers) spoil(x *lib) {
	near := func(n uint32) uint32 {
		return uint32(r.one(0, 1, 2, uint64(r.Below(12)), uint64(n)+1, uint64(n)-1, uint64(n)^1, uint64(n)^uint64(1)<<r.Below(32), r.value()))
	}
	turn := func(at uint64) { x.put(at, near(x.get(at))) }
	switch r.Below(8) {
	case 0:
		turn(hashAt + 4*uint64(r.Below(2+int(x.rows)+12)))
	case 1:
		turn(gnuAt + 4*uint64(r.Below(4+2*int(x.gnu.words)+int(x.gnu.rows)+12)))
	case 2:
		turn(x.newRow(uint32(r.Below(int(x.gnu.rows)))))
	case 3:
		turn(x.own(int(x.gnu.first) + r.Below(12)))
	case 4:
		turn(r.one(hashAt, hashAt+4, gnuAt, gnuAt+4, gnuAt+8, gnuAt+12))
	case 5:
		x.Image[recordsAt+r.Below(24*12)] = byte(r.one(0, 1, 2, 3, 0x10, 0x12, 0x13, 0x20, 0x30, r.Next()))
	case 6:
		x.Image[stringsAt+r.Below(40)] = byte(r.one(0, 32, 33, 126, 127, 128, 255, 'x'))
	case 7:
		tag := r.one(4, 6, 10, 0x6ffffef5)
		if value, ok := x.Tags[tag]; ok {
			x.Tags[tag] = r.one(value+1, value-1, value+24, value-24, value+4, r.value())
		}
	}
}

// P10.1: any names, those with bytes above 127 and long ones with them.
func TestSumsModel(t *testing.T) {
	for seed := range uint64(3000) {
		r := row(seed)
		name := make([]byte, r.Below(20)*r.Below(20))
		for i := range name {
			name[i] = byte(r.Below(256))
		}
		for range r.Below(3) {
			if len(name) > 0 {
				name[r.Below(len(name))] = byte(r.one(0, 127, 128, 255))
			}
		}
		if n, want := syms.Sysv(string(name)), oldSum(string(name)); n != want {
			t.Fatalf("Sysv(%q): %d, not %d", name, n, want)
		}
		if n, want := syms.Gnu(string(name)), newSum(string(name)); n != want {
			t.Fatalf("Gnu(%q): %d, not %d", name, n, want)
		}
	}
}

// P10.2: any libraries, right ones and spoilt ones, held against the model.
func TestModel(t *testing.T) {
	met := map[api.Errno]int{}
	for seed := range uint64(20000) {
		r := row(seed)
		x := r.right()
		if r.Below(3) == 0 {
			r.shift(x)
		}
		for range r.Below(3) {
			r.spoil(x)
		}
		b := x.File()
		h, e := head.Parse(b)
		if e != api.OK {
			t.Fatalf("row %d: %v", seed, e)
		}
		d, e := dyn.Parse(b, h)
		if e != api.OK { // the strings may have been lost
			met[e]++
			continue
		}
		want, wantErr := model{mold.Read(b, h.Loads), h, d}.read()
		l, e := syms.Parse(b, h, d)
		if e != wantErr || !slices.Equal(l, want) {
			t.Fatalf("row %d:\n%+v, %v, not\n%+v, %v", seed, l, e, want, wantErr)
		}
		met[e]++
	}
	for e, many := range map[api.Errno]int{api.OK: 5000, api.ErrSymtab: 2000, api.ErrHash: 3000} {
		if met[e] < many {
			t.Errorf("%v was met just %d times", e, met[e])
		}
	}
	if met[api.ErrStrtab] > 1000 {
		t.Errorf("%d libraries didn't come so far", met[api.ErrStrtab])
	}
}

// P10.2: right libraries may be, and say what another reader of ELF files has.
func TestOtherReader(t *testing.T) {
	for seed := range uint64(2000) {
		x := row(seed).right()
		b := x.File()
		h, d := layers(t, b)
		l, e := syms.Parse(b, h, d)
		if e != api.OK && x.get(hashAt+4) > 256 { // there may be one or two too many
			continue
		}
		if e != api.OK {
			t.Fatalf("row %d: %v", seed, e)
		}
		records, _ := head.Off(h, d.Symtab, 0)
		texts, _ := head.Off(h, d.Strings.At, 0)
		listed := mold.Listed(b, mold.Section{Kind: 11, Link: 2, Off: records, Size: 24 * uint64(len(l))}, mold.Section{Kind: 3, Off: texts, Size: d.Strings.Size})
		f, err := elf.NewFile(bytes.NewReader(listed))
		if err != nil {
			t.Fatal(err)
		}
		all, err := f.DynamicSymbols()
		if err != nil && len(l) > 1 || len(all) != len(l)-1 {
			t.Fatalf("row %d: %d and %d symbols, %v", seed, len(l), len(all), err)
		}
		for i, s := range all {
			want := api.Sym{Name: s.Name, Bind: int(elf.ST_BIND(s.Info)), Defined: s.Section != elf.SHN_UNDEF, Value: s.Value, Size: s.Size}
			if l[i+1] != want {
				t.Errorf("row %d: %+v, not %+v", seed, l[i+1], want)
			}
		}
	}
}

// list: any symbols, with any fields.
func (r *numbers) list() []api.Sym {
	l := make([]api.Sym, r.Below(10))
	for i := range l {
		l[i] = api.Sym{Name: r.Text("", "a", "b", "c"), Ver: r.Text("", "V", "W"), Hidden: r.Below(2) == 0, Bind: r.Below(4) - 1, Defined: r.Below(4) > 0, Value: uint64(r.Below(20)), Size: uint64(r.Below(12))}
		if r.Below(4) == 0 {
			l[i].Value, l[i].Size = r.value(), r.value()
		}
	}
	return l
}

// P10.3: any symbols, held against the chapter's words.
func TestFindModel(t *testing.T) {
	found := map[bool]int{}
	for seed := range uint64(10000) {
		r := row(seed)
		l := r.list()
		may := func(s api.Sym) bool { return s.Defined && s.Bind != 0 }
		for _, versions := range []bool{false, true} {
			for _, name := range []string{"", "a", "b", "c", "d"} {
				checkFind(t, l, versions, name, "", slices.IndexFunc(l, func(s api.Sym) bool { return may(s) && s.Name == name && !s.Hidden }))
				for _, ver := range []string{"V", "W", "X"} {
					want := slices.IndexFunc(l, func(s api.Sym) bool { return may(s) && s.Name == name && (s.Ver == ver || !versions) })
					found[want >= 0]++
					checkFind(t, l, versions, name, ver, want)
				}
			}
		}
		for _, at := range []uint64{uint64(r.Below(40)), r.value(), 0, huge} {
			want := -1
			for i, s := range l {
				last, over := bits.Add64(s.Value, max(s.Size, 1)-1, 0)
				if over != 0 {
					last = math.MaxUint64
				}
				if may(s) && at >= s.Value && at <= last && (want < 0 || l[want].Value < s.Value) {
					want = i
				}
			}
			found[want >= 0]++
			checkNear(t, l, at, want)
		}
		if t.Failed() {
			t.Fatalf("row %d: %+v", seed, l)
		}
	}
	if found[true] < 50000 || found[false] < 50000 {
		t.Error(found)
	}
}

// P1: of any bytes, any headers and any dynamic section each call ends, and says nothing beside an error.
func TestAnything(t *testing.T) {
	met := map[api.Errno]int{}
	for seed := range uint64(20000) {
		r := row(seed)
		x := r.right()
		b := x.File()
		h, d := layers(t, b)
		if r.Below(2) == 0 {
			for range r.Below(5) {
				h.Loads = append(h.Loads, api.Phdr{Off: r.value(), Vaddr: r.value(), Filesz: r.value(), Memsz: r.value()})
			}
			i := r.Below(len(h.Loads))
			h.Loads[i] = api.Phdr{Off: r.value(), Vaddr: r.value(), Filesz: r.value(), Memsz: r.value()}
			h.Loads = h.Loads[:r.Below(len(h.Loads)+1)]
		}
		for _, n := range []*uint64{&d.Hash, &d.GnuHash, &d.Symtab, &d.Strings.At, &d.Strings.Size} {
			if r.Below(3) == 0 {
				*n = r.value()
			}
		}
		if r.Below(3) == 0 {
			b = b[:r.Below(len(b))]
		}
		l, e := syms.Parse(b, h, d)
		if e != api.OK && len(l) != 0 || e == api.OK && (len(l) < 1 || len(l) > 256) || e != api.OK && e != api.ErrSymtab && e != api.ErrHash {
			t.Fatalf("row %d: %v, %v", seed, l, e)
		}
		met[e]++
	}
	// Nothing at all.
	if l, e := syms.Parse(nil, api.Heads{}, api.Dyn{}); e != api.ErrHash || len(l) != 0 {
		t.Error(l, e)
	}
	if l, e := syms.Parse(nil, api.Heads{}, api.Dyn{Hash: 1}); e != api.ErrHash || len(l) != 0 {
		t.Error(l, e)
	}
	if len(met) != 3 {
		t.Error(met)
	}
}
