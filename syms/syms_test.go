package syms_test

import (
	"bytes"
	"encoding/binary"
	"math"
	"slices"
	"strconv"
	"strings"
	"testing"

	"messuage/api"
	"messuage/dyn"
	"messuage/head"
	"messuage/mold"
	"messuage/syms"
)

const (
	huge = math.MaxUint64

	// Where things lie in the memory of the tests' libraries.
	dynAt     = 384
	secondAt  = 512
	recordsAt = 520
	thirdAt   = 7168
	hashAt    = 7172
	gnuAt     = 9301
	stringsAt = 12001
	thirdEnd  = 14592 // of its bytes of the file
	spanEnd   = 15104
)

// sym is a symbol's record as tests write it down: its name is laid among the strings.
type sym struct {
	name        string
	info        byte
	where       uint16
	value, size uint64
}

// may: may it be had?
func (s sym) may() bool { return s.where != 0 && s.info>>4 != 0 }

// gnu is the first words of a newer table.
type gnu struct{ rows, first, words, shift uint32 }

// lib is a library that is to be written, with how many rows its older table has, and what the newer one begins with.
type lib struct {
	*mold.Lib
	rows uint32
	gnu  gnu
}

// write: a library of these symbols and the empty one, and both tables of sums; first 0: that of the first symbol that may be had.
func write(rows uint32, g gnu, l ...sym) *lib {
	x := &lib{mold.New(dynAt,
		api.Phdr{Flags: 4, Vaddr: 0, Filesz: secondAt, Memsz: secondAt},
		api.Phdr{Flags: 4, Vaddr: secondAt, Filesz: thirdAt - secondAt, Memsz: thirdAt - secondAt},
		api.Phdr{Flags: 6, Vaddr: thirdAt, Filesz: thirdEnd - thirdAt, Memsz: thirdEnd - thirdAt + 300},
	), rows, g}
	texts := "\x00"
	for i, s := range l {
		x.record(i+1, uint32(len(texts)), s)
		texts += s.name + "\x00"
	}
	copy(x.Image[stringsAt:thirdEnd], texts)
	x.Tags = map[uint64]uint64{5: stringsAt, 10: uint64(len(texts)), 6: recordsAt, 4: hashAt, 0x6ffffef5: gnuAt}
	x.older(l)
	x.newer(l)
	return x
}

// record: lays down the record of a symbol whose name stands at a place among the strings.
func (x *lib) record(number int, name uint32, s sym) {
	at := recordsAt + 24*uint64(number)
	x.Put(at, 4, uint64(name))
	x.Put(at+4, 1, uint64(s.info), uint64(number)) // what stands at 5 isn't asked
	x.Put(at+6, 2, uint64(s.where))
	x.Put(at+8, 8, s.value, s.size)
}

// older: lays down the older table.
func (x *lib) older(l []sym) {
	x.put(hashAt, x.rows, uint32(len(l)+1))
	for i, s := range slices.Backward(l) {
		if s.may() {
			row := x.oldRow(syms.Sysv(s.name) % x.rows)
			x.put(x.oldWord(i+1), x.get(row))
			x.put(row, uint32(i+1))
		}
	}
}

// newer: lays down the newer table: all symbols from first on are of one run, whose last word alone is odd.
func (x *lib) newer(l []sym) {
	if x.gnu.first == 0 {
		x.gnu.first = 1 + uint32(len(l))
		if i := slices.IndexFunc(l, sym.may); i >= 0 {
			x.gnu.first = 1 + uint32(i)
		}
	}
	x.put(gnuAt, x.gnu.rows, x.gnu.first, x.gnu.words, x.gnu.shift)
	for i, s := range slices.Backward(l) {
		if i+1 < int(x.gnu.first) {
			break
		}
		sum := syms.Gnu(s.name)
		x.put(x.own(i+1), sum&^1)
		if i+1 == len(l) {
			x.put(x.own(i+1), sum|1)
		}
		if s.may() {
			x.put(x.newRow(sum%x.gnu.rows), uint32(i+1))
			x.setBits(sum/64%x.gnu.words, sum%64, sum>>x.gnu.shift%64)
		}
	}
}

// Where the words of the tables lie.
func (x *lib) oldRow(row uint32) uint64 { return hashAt + 8 + 4*uint64(row) }
func (x *lib) oldWord(number int) uint64 {
	return hashAt + 8 + 4*uint64(x.rows) + 4*uint64(number)
}
func (x *lib) filter(word uint32) uint64 { return gnuAt + 16 + 8*uint64(word) }
func (x *lib) newRow(row uint32) uint64  { return x.filter(x.gnu.words) + 4*uint64(row) }
func (x *lib) own(number int) uint64 {
	return x.newRow(x.gnu.rows) + 4*uint64(number) - 4*uint64(x.gnu.first)
}

func (x *lib) get(at uint64) uint32 { return uint32(x.Get(at, 4)) }

func (x *lib) put(at uint64, words ...uint32) {
	for i, n := range words {
		x.Put(at+4*uint64(i), 4, uint64(n))
	}
}

func (x *lib) setBits(word uint32, bits ...uint32) {
	for _, bit := range bits {
		x.Image[x.filter(word)+uint64(bit/8)] |= 1 << (bit % 8)
	}
}

func (x *lib) clearBit(word, bit uint32) {
	x.Image[x.filter(word)+uint64(bit/8)] &^= 1 << (bit % 8)
}

// layers: what layers 8 and 9 answer for a file.
func layers(t *testing.T, b []byte) (api.Heads, api.Dyn) {
	t.Helper()
	h, e := head.Parse(b)
	if e != api.OK {
		t.Fatal("head:", e)
	}
	d, e := dyn.Parse(b, h)
	if e != api.OK {
		t.Fatal("dyn:", e)
	}
	return h, d
}

// check: what a library says, or what is wrong with it.
func check(t *testing.T, what string, x *lib, wantErr api.Errno, want ...api.Sym) {
	t.Helper()
	b := x.File()
	h, d := layers(t, b)
	if l, e := syms.Parse(b, h, d); e != wantErr || !slices.Equal(l, want) {
		t.Errorf("Parse, %s:\n%v, %v, not\n%v, %v", what, l, e, want, wantErr)
	}
}

// checkOK: a library may be; what it says isn't asked here.
func checkOK(t *testing.T, what string, x *lib) {
	t.Helper()
	b := x.File()
	h, d := layers(t, b)
	if _, e := syms.Parse(b, h, d); e != api.OK {
		t.Errorf("Parse, %s: %v", what, e)
	}
}

// only: the library with one of its tables alone.
func (x *lib) only(tag uint64) *lib {
	delete(x.Tags, 4+0x6ffffef5-tag)
	return x
}

const (
	olderTag = 4
	newerTag = 0x6ffffef5
)

// some: symbols of each kind that may be.
func some() []sym {
	return []sym{
		{"asked", 0x10, 0, 0, 0},
		{"weakly", 0x22, 0, 0, 9},
		{"own", 0x02, 1, 700, 4},
		{"f", 0x12, 1, 640, 8},
		{"g", 0x21, 0xffff, spanEnd - 1, huge},
		{"f", 0x10, 0x100, 0, 0},
		{"_ZN1aE", 0x11, 7, 1, 1 << 63},
		{"inner", 0x01, 3, spanEnd - 1, 0},
		{strings.Repeat("k", 64), 0x20, 3, 15000, 2},
	}
}

// someSaid: what they are.
func someSaid() []api.Sym {
	return []api.Sym{
		{},
		{Name: "asked", Bind: 1},
		{Name: "weakly", Bind: 2, Size: 9},
		{Name: "own", Bind: 0, Defined: true, Value: 700, Size: 4},
		{Name: "f", Bind: 1, Defined: true, Value: 640, Size: 8},
		{Name: "g", Bind: 2, Defined: true, Value: spanEnd - 1, Size: huge},
		{Name: "f", Bind: 1, Defined: true},
		{Name: "_ZN1aE", Bind: 1, Defined: true, Value: 1, Size: 1 << 63},
		{Name: "inner", Defined: true, Value: spanEnd - 1},
		{Name: strings.Repeat("k", 64), Bind: 2, Defined: true, Value: 15000, Size: 2},
	}
}

// someLib: a library of these.
func someLib() *lib { return write(3, gnu{rows: 2, words: 2, shift: 6}, some()...) }

// many: symbols that may be had, so many, each with a name of its own.
func many(n int) []sym {
	l := make([]sym, n)
	for i := range l {
		l[i] = sym{"n" + strconv.Itoa(i), 0x10, 1, uint64(i), 1}
	}
	return l
}

// manySaid: what a library of so many symbols says, the empty one counted.
func manySaid(n int) []api.Sym {
	l := []api.Sym{{}}
	for _, s := range many(n - 1) {
		l = append(l, api.Sym{Name: s.name, Bind: 1, Defined: true, Value: s.value, Size: 1})
	}
	return l
}

// P10.1, P10.3: the chapter's examples.
func TestExamples(t *testing.T) {
	if n := syms.Sysv("abc"); n != 26499 {
		t.Error(n)
	}
	if n := syms.Gnu("a"); n != 177670 {
		t.Error(n)
	}
	if syms.One != 24 {
		t.Error(syms.One)
	}
	l := []api.Sym{{Name: "a", Ver: "V", Hidden: true, Bind: 1, Defined: true}, {Name: "a", Bind: 1, Defined: true}}
	for _, versions := range []bool{false, true} {
		checkFind(t, l, versions, "a", "", 1)
		checkFind(t, l, versions, "a", "V", 0)
	}
}

// P10.1: the sums, as others have them, too.
func TestSums(t *testing.T) {
	for _, x := range []struct {
		name       string
		older, new uint32
	}{
		{"", 0, 5381},
		{"a", 97, 177670},
		{"\x00", 0, 177573},
		{"\xff", 255, 177828},
		{"\x80\x80", 0x880, 5864261},
		{"exit", 0x0006cf04, 0x7c967e3f},
		{"printf", 0x077905a6, 0x156b2bb8},
		{"syscall", 0x0b09985c, 0xbac212a0},
		{"flapenguin.me", 0x03987915, 0x8ae9f18e},
	} {
		if n := syms.Sysv(x.name); n != x.older {
			t.Errorf("Sysv(%q): %#x, not %#x", x.name, n, x.older)
		}
		if n := syms.Gnu(x.name); n != x.new {
			t.Errorf("Gnu(%q): %#x, not %#x", x.name, n, x.new)
		}
	}
}

// P10.1: which symbols may be had: just that a symbol is Defined, and not Local, is asked.
func TestExported(t *testing.T) {
	for _, bind := range []int{api.Local, api.Global, api.Weak, 3, 15, 256, -1, math.MinInt, math.MaxInt} {
		for _, s := range []api.Sym{{}, {Name: "a", Ver: "V", Value: 7, Size: 9}, {Name: "a", Hidden: true}} {
			s.Bind = bind
			if syms.Exported(s) {
				t.Errorf("%+v may be had", s)
			}
			s.Defined = true
			if syms.Exported(s) != (bind != 0) {
				t.Errorf("%+v: %v", s, bind == 0)
			}
		}
	}
}

// P10.2: symbols of each kind, with either table and both.
func TestParse(t *testing.T) {
	check(t, "both tables", someLib(), api.OK, someSaid()...)
	check(t, "the older", someLib().only(olderTag), api.OK, someSaid()...)
	check(t, "the newer", someLib().only(newerTag), api.OK, someSaid()...)
	x := someLib()
	x.Tags[4] = 0
	check(t, "the older at 0", x, api.OK, someSaid()...)
	x = someLib()
	x.Tags[0x6ffffef5] = 0
	check(t, "the newer at 0", x, api.OK, someSaid()...)
	for rows := range uint32(20) {
		for _, words := range []uint32{1, 2, 4, 8, 16, 32, 64} {
			x := write(rows+1, gnu{rows: 20 - rows, words: words, shift: rows + 12}, some()...)
			check(t, "other tables", x, api.OK, someSaid()...)
			check(t, "the newer", x.only(newerTag), api.OK, someSaid()...)
		}
	}
}

// P10.2: no table that could tell how many symbols there are: none of its words at Hash, or at GnuHash.
func TestNoTable(t *testing.T) {
	x := someLib()
	x.Tags[4], x.Tags[0x6ffffef5] = 0, 0
	check(t, "none", x, api.ErrHash)
	check(t, "none", someLib().at(0x6ffffef5, 0).only(newerTag), api.ErrHash)
	check(t, "none", someLib().at(4, 0).only(olderTag), api.ErrHash)
	places := []uint64{1, 5, thirdEnd - 1, thirdEnd, spanEnd, 1 << 20, 1 << 32, 1<<32 + hashAt, 1 << 40, 1 << 63, 1<<63 + gnuAt, huge, huge - 1}
	for n := range uint64(100) {
		places = append(places, thirdEnd-n, huge-n)
	}
	for at := uint64(secondAt - 7); at < secondAt; at++ {
		want := api.ErrHash
		if at == secondAt-4 { // a word in each part
			want = api.ErrSymtab
		}
		check(t, "an older one in two parts", someLib().at(4, at), want)
	}
	for _, at := range places {
		check(t, "an older one elsewhere", someLib().at(4, at), failsAt(at))
		check(t, "an older one elsewhere", someLib().at(4, at).only(olderTag), failsAt(at))
		check(t, "a newer one elsewhere", someLib().at(0x6ffffef5, at), api.ErrHash)
		check(t, "a newer one elsewhere", someLib().at(0x6ffffef5, at).only(newerTag), api.ErrHash)
	}
}

// at: the library with another value of a tag.
func (x *lib) at(tag, value uint64) *lib {
	x.Tags[tag] = value
	return x
}

// failsAt: what is wrong with an older table elsewhere: the memory says how many symbols there are, if it is there.
func failsAt(at uint64) api.Errno {
	if at < thirdEnd-7 && at+8 > at {
		return api.ErrSymtab
	}
	return api.ErrHash
}

// P10.2: a table's first words at the end of a part's bytes of the file, and one byte further.
func TestTableAtEnd(t *testing.T) {
	alone := write(1, gnu{rows: 1, words: 1})
	check(t, "the empty symbol alone", alone, api.OK, api.Sym{})
	old := write(1, gnu{rows: 1, words: 1}).only(olderTag).at(4, thirdEnd-8)
	old.put(thirdEnd-8, 1, 1)
	check(t, "the older one at the end", old, api.OK, api.Sym{})
	for more := range uint64(8) {
		old.Tags[4] = thirdEnd - 7 + more
		check(t, "further", old, api.ErrHash)
	}
	// Of the newer one the row's word is asked for, too, if it tells how many there are.
	young := write(1, gnu{rows: 1, words: 1}).only(newerTag)
	young.Move(gnuAt, thirdEnd-28, 28)
	young.Tags[0x6ffffef5] = thirdEnd - 28
	check(t, "the newer one at the end", young, api.OK, api.Sym{})
	for less := uint64(1); less <= 28; less++ {
		young.Loads[2].Filesz = thirdEnd - thirdAt - less
		check(t, "less of it", young, api.ErrHash)
	}
	// If the older one tells it, just the first four words are.
	both := write(1, gnu{rows: 1, words: 1})
	both.Move(gnuAt, thirdEnd-16, 16)
	both.Tags[0x6ffffef5] = thirdEnd - 16
	check(t, "the newer one's first words at the end", both, api.OK, api.Sym{})
	for less := uint64(1); less <= 16; less++ {
		both.Loads[2].Filesz = thirdEnd - thirdAt - less
		check(t, "less of it", both, api.ErrHash)
	}
}

// twoParts: the library with its third part in two, the second of which begins at a page.
func (x *lib) twoParts(at uint64) *lib {
	third := x.Loads[2]
	x.Loads = append(x.Loads[:2:2], third, third)
	x.Loads[2].Filesz, x.Loads[2].Memsz = at-thirdAt, at-thirdAt
	x.Loads[3].Vaddr += at - thirdAt
	x.Loads[3].Filesz -= at - thirdAt
	x.Loads[3].Memsz -= at - thirdAt
	return x
}

// P10.2: each word of a table lies in one part's bytes; the table itself may lie in two parts.
func TestTableInTwoParts(t *testing.T) {
	const edge = 9216
	for shift := range uint64(64) {
		x := someLib().only(olderTag).twoParts(edge)
		x.Move(hashAt, edge-shift, 4*(2+3+10))
		x.Tags[4] = edge - shift
		want := api.OK
		if shift%4 != 0 && shift < 4*(2+3+10) && asked(x, shift/4) {
			want = api.ErrHash
		}
		checkErr(t, "the older one", x, want)
		y := someLib().only(newerTag).twoParts(edge)
		y.Move(gnuAt, edge-shift, 16+16+8+4*6)
		y.Tags[0x6ffffef5] = edge - shift
		want = api.OK
		if filter := shift >= 16 && shift < 32; shift%4 != 0 || filter && shift%8 != 0 {
			want = api.ErrHash
		}
		checkErr(t, "the newer one", y, want)
		// With an older one beside it; all of its words are asked for, that of the symbol between others which can't be had, too.
		l, said := many(4), manySaid(5)
		l[1].info, said[2].Bind = 0, 0
		z := write(1, gnu{rows: 1, words: 1}, l...).twoParts(edge)
		z.Move(gnuAt, edge-shift, 16+8+4+4*4)
		z.Tags[0x6ffffef5] = edge - shift
		if whole := shift%4 == 0 && shift != 20; whole || shift > 16+8+4+4*4 {
			check(t, "both", z, api.OK, said...)
		} else {
			check(t, "both", z, api.ErrHash)
		}
	}
}

// asked: is a word of the older table, which lies elsewhere now, asked for? Those of symbols behind which none comes, and of such as can't be had, aren't.
func asked(x *lib, word uint64) bool {
	return word < 2 || x.Image[x.Tags[4]+4*word] != 0
}

// checkErr: what is wrong with a library, or nothing.
func checkErr(t *testing.T, what string, x *lib, want api.Errno) {
	t.Helper()
	if want == api.OK {
		check(t, what, x, want, someSaid()...)
	} else {
		check(t, what, x, want)
	}
}

// P10.2: how many rows an older table has: 1 to 256.
func TestOlderRows(t *testing.T) {
	for _, rows := range []uint32{1, 2, 3, 255, 256} {
		check(t, "rows", write(rows, gnu{rows: 1, words: 1}, some()...), api.OK, someSaid()...)
	}
	// With 257 rows it would lead to each symbol, too.
	check(t, "257 rows", write(257, gnu{rows: 1, words: 1}, some()...), api.ErrHash)
	for _, rows := range []uint32{0, 257, 258, 512, 1 << 16, 1 << 31, math.MaxUint32} {
		x := someLib()
		x.put(hashAt, rows)
		check(t, "other rows", x, api.ErrHash)
		alone := write(1, gnu{rows: 1, words: 1})
		alone.put(hashAt, rows)
		check(t, "other rows, and nothing to be led to", alone, api.ErrHash)
	}
}

// P10.2: an older table that doesn't lead to a symbol that may be had, or does so a long way round.
func TestOlderLeads(t *testing.T) {
	one := func(words ...uint32) *lib {
		x := write(1, gnu{rows: 1, words: 1}, many(4)...)
		x.put(hashAt+8, words...)
		return x.only(olderTag)
	}
	// The row's word, then those of the symbols 0 to 4.
	for _, words := range [][]uint32{
		{1, 0, 2, 3, 4, 0}, {4, 0, 0, 1, 2, 3}, {3, 0, 2, 4, 1, 0}, // in any order
		{1, 9, 2, 3, 4, 0},              // the first symbol's word isn't come to
		{1, 0, 2, 3, 4, 4},              // what is behind the last one isn't asked: a ring,
		{1, 0, 2, 3, 4, 1},              // a ring of all,
		{1, 0, 2, 3, 4, 5},              // a number that is none,
		{1, 0, 2, 3, 4, math.MaxUint32}, // or is none at all
	} {
		check(t, "leads", one(words...), api.OK, manySaid(5)...)
	}
	for _, words := range [][]uint32{
		{0, 0, 2, 3, 4, 0}, // an empty row
		{2, 0, 2, 3, 4, 0}, // the first one is left away
		{1, 0, 2, 3, 0, 0}, // the last one
		{1, 0, 3, 3, 4, 0}, // one between
		{1, 0, 1, 3, 4, 0}, // rings
		{1, 0, 2, 1, 4, 0},
		{1, 0, 2, 3, 1, 0},
		{4, 0, 2, 3, 1, 4},
		{1, 0, 5, 3, 4, 0}, // numbers that aren't a symbol's
		{5, 0, 2, 3, 4, 1},
		{6, 0, 2, 3, 4, 0, 1},
		{math.MaxUint32, 0, 2, 3, 4, 0},
		{1 << 16, 0, 2, 3, 4, 0},
		{0, 1, 2, 3, 4, 0}, // 0 leads on to none
		{2, 1, 0, 3, 4, 0},
	} {
		check(t, "doesn't lead", one(words...), api.ErrHash)
	}
	// A symbol behind the last one: the row leads to it, and on to all others.
	long := one(5, 0, 2, 3, 4, 0, 1)
	check(t, "a symbol too far", long, api.ErrHash)
	// Each row leads to its own symbols.
	for number := range 9 {
		x := write(256, gnu{rows: 1, words: 1}, some()...).only(olderTag)
		s := some()[number]
		row := x.oldRow(syms.Sysv(s.name) % 256)
		x.put(row, 0)
		want := api.ErrHash
		if !s.may() {
			want = api.OK
		}
		checkErr(t, "a row is empty", x, want)
		y := write(256, gnu{rows: 1, words: 1}, some()...).only(olderTag)
		y.put(y.oldRow(0), slices.Repeat([]uint32{4}, 256)...)
		check(t, "all rows lead elsewhere", y, api.ErrHash)
	}
	// The second of two symbols of one name isn't the first.
	x := write(1, gnu{rows: 1, words: 1}, sym{"a", 0x10, 1, 1, 1}, sym{"a", 0x10, 1, 2, 1}).only(olderTag)
	check(t, "two of one name", x, api.OK, api.Sym{}, api.Sym{Name: "a", Bind: 1, Defined: true, Value: 1, Size: 1}, api.Sym{Name: "a", Bind: 1, Defined: true, Value: 2, Size: 1})
	x.put(x.oldWord(1), 0)
	check(t, "the second isn't led to", x, api.ErrHash)
}

// P10.2: words of an older table that aren't there, on the way and elsewhere.
func TestOlderCut(t *testing.T) {
	// Laid so that its last words lie behind the part's bytes of the file.
	for cut := range uint64(40) {
		x := write(1, gnu{rows: 1, words: 1}, many(4)...).only(olderTag)
		const size = 4 * (2 + 1 + 5)
		x.Move(hashAt, thirdEnd-size+cut, size)
		x.Tags[4] = thirdEnd - size + cut
		if cut <= 4 { // the last symbol's own word leads nowhere
			check(t, "cut, as far as it is asked", x, api.OK, manySaid(5)...)
		} else {
			check(t, "cut", x, api.ErrHash)
		}
	}
}

// P10.2: the first words of a newer table.
func TestNewerHead(t *testing.T) {
	right := []gnu{
		{rows: 1, words: 1}, {rows: 2, words: 64}, {rows: 255, words: 2}, {rows: 256, words: 4, shift: 31}, {rows: 1, words: 8, shift: 30},
		{rows: 3, words: 16, shift: 5}, {rows: 3, words: 32, shift: 6}, {rows: 1, words: 1, first: 1}, {rows: 2, words: 1, first: 2}, {rows: 2, words: 1, first: 4},
	}
	for _, g := range right {
		check(t, "both", write(1, g, some()...), api.OK, someSaid()...)
		check(t, "the newer one alone", write(1, g, some()...).only(newerTag), api.OK, someSaid()...)
	}
	// These would lead to each symbol, too.
	for _, g := range []gnu{{rows: 257, words: 1}, {rows: 1, words: 3}, {rows: 1, words: 63}, {rows: 1, words: 128}, {rows: 1, words: 1, shift: 32}, {rows: 1, words: 1, shift: 33}} {
		check(t, "both", write(1, g, some()...), api.ErrHash)
		check(t, "the newer one alone", write(1, g, some()...).only(newerTag), api.ErrHash)
	}
	const max = math.MaxUint32
	heads := [][4]uint32{
		{0, 1, 1, 0}, {257, 1, 1, 0}, {max, 1, 1, 0}, {1 << 8, 1, max, 0},
		{1, 0, 1, 0}, {1, 257, 1, 0}, {1, max, 1, 0}, {1, 1 << 31, 1, 0},
		{1, 1, 0, 0}, {1, 1, 3, 0}, {1, 1, 5, 0}, {1, 1, 6, 0}, {1, 1, 7, 0}, {1, 1, 12, 0}, {1, 1, 48, 0}, {1, 1, 63, 0}, {1, 1, 65, 0},
		{1, 1, 128, 0}, {1, 1, 256, 0}, {1, 1, 1 << 31, 0}, {1, 1, max, 0},
		{1, 1, 1, 32}, {1, 1, 1, 33}, {1, 1, 1, 64}, {1, 1, 1, max}, {1, 1, 1, 1 << 31},
		{0, 0, 0, 0}, {max, max, max, max},
	}
	for _, words := range heads {
		// The empty symbol alone: the table has none that it must lead to.
		alone := write(1, gnu{rows: 1, words: 1})
		alone.put(gnuAt, words[:]...)
		check(t, "both", alone, api.ErrHash)
		check(t, "the newer one alone", alone.only(newerTag), api.ErrHash)
	}
}

// P10.2: how many symbols there are, as far as the rows of a newer table go.
func TestNewerCount(t *testing.T) {
	// Of symbols that can't be had none is led to.
	var l []sym
	for i := range 255 {
		l = append(l, sym{"x" + strconv.Itoa(i), 0x01, 1, 0, 0})
	}
	said := []api.Sym{{}}
	for _, s := range l {
		said = append(said, api.Sym{Name: s.name, Defined: true})
	}
	count := func(what string, first uint32, rows []uint32, odd []uint32, want int) {
		t.Helper()
		x := write(1, gnu{rows: uint32(len(rows)), words: 1, first: first}, l...).only(newerTag)
		x.put(x.newRow(0), rows...)
		for number := int(first); number <= 256; number++ {
			x.put(x.own(number), 0xfffffffe)
		}
		for _, number := range odd {
			x.put(x.own(int(number)), 1)
		}
		switch {
		case want == 0:
			check(t, what, x, api.ErrHash)
		case want > 256:
			check(t, what, x, api.ErrSymtab)
		default:
			check(t, what, x, api.OK, said[:want]...)
		}
	}
	count("a row that is empty", 1, []uint32{0}, nil, 1)
	count("rows that are empty", 7, []uint32{0, 0, 0}, nil, 7)
	count("first 256, and nothing", 256, []uint32{0}, nil, 256)
	count("first 256, and one too many", 256, []uint32{256}, []uint32{256}, 257)
	count("one", 1, []uint32{1}, []uint32{1}, 2)
	count("one, not the first", 1, []uint32{5}, []uint32{5}, 6)
	count("a row of some", 3, []uint32{4}, []uint32{9}, 10)
	count("up to the first odd one", 3, []uint32{4}, []uint32{3, 6, 9}, 7)
	count("up to the last", 1, []uint32{1}, []uint32{255}, 256)
	count("one too many", 1, []uint32{1}, []uint32{256}, 257)
	count("one that begins too late", 1, []uint32{256}, []uint32{256}, 257)
	count("no end", 1, []uint32{1}, nil, 0)
	count("no end from there on", 1, []uint32{5}, []uint32{4}, 0)
	count("behind the most", 1, []uint32{257}, []uint32{255, 256}, 0)
	count("far behind", 1, []uint32{math.MaxUint32}, []uint32{255}, 0)
	count("below first", 3, []uint32{2}, []uint32{3, 4}, 0)
	count("below first, behind another one", 3, []uint32{3, 1}, []uint32{3, 4}, 0)
	count("first, and at it", 3, []uint32{3}, []uint32{3}, 4)
	count("below first, ahead of another one", 3, []uint32{2, 3}, []uint32{3, 4}, 0)
	count("rising rows", 1, []uint32{1, 3, 4}, []uint32{2, 3, 8}, 9)
	count("a row within another one is passed over", 1, []uint32{1, 3}, []uint32{5, 4}, 5)
	count("rows that fall", 1, []uint32{7, 3, 1}, []uint32{7, 3, 1}, 8)
	count("the end of one that is passed over isn't asked", 1, []uint32{7, 6}, []uint32{7}, 8)
	count("a row at the greatest one so far", 1, []uint32{1, 3}, []uint32{2, 6}, 7)
	count("just below it", 1, []uint32{1, 2}, []uint32{2, 6}, 3)
	count("just below it, without an end", 1, []uint32{255, 254}, []uint32{255}, 256)
	count("a gap", 1, []uint32{1, 9}, []uint32{1, 9}, 10)
	count("two alike", 1, []uint32{4, 4}, []uint32{4}, 5)
	count("empty ones between", 1, []uint32{0, 2, 0, 4, 0}, []uint32{3, 6}, 7)
	count("the second without an end", 1, []uint32{1, 9}, []uint32{1, 8}, 0)
	count("256 rows", 1, append(make([]uint32, 255), 3), []uint32{4}, 5)
}

// P10.2: words of a newer table that aren't there.
func TestNewerCut(t *testing.T) {
	const size = 16 + 8 + 4*2 + 4*4
	for cut := range uint64(60) {
		x := write(1, gnu{rows: 2, words: 1}, many(4)...)
		x.Move(gnuAt, thirdEnd-size+cut, size)
		x.Tags[0x6ffffef5] = thirdEnd - size + cut
		want := manySaid(5)
		wantErr := api.OK
		if cut > 0 {
			want, wantErr = nil, api.ErrHash
		}
		check(t, "cut, both", x, wantErr, want...)
		check(t, "cut", x.only(newerTag), wantErr, want...)
	}
	// With an older table words that it isn't led over needn't be there: here those of symbols that can't be had.
	for cut := range uint64(20) {
		x := write(1, gnu{rows: 1, words: 1}, sym{"a", 0x10, 1, 0, 0}, sym{"b", 0x00, 1, 0, 0}, sym{"c", 0x00, 1, 0, 0})
		const size = 16 + 8 + 4 + 4*3
		x.Move(gnuAt, thirdEnd-size+cut, size)
		x.Tags[0x6ffffef5] = thirdEnd - size + cut
		want := []api.Sym{{}, {Name: "a", Bind: 1, Defined: true}, {Name: "b", Defined: true}, {Name: "c", Defined: true}}
		wantErr := api.OK
		if cut > 8 {
			want, wantErr = nil, api.ErrHash
		}
		check(t, "cut, both", x, wantErr, want...)
	}
}

// checkFind: what Find answers, and an index with it.
func checkFind(t *testing.T, l []api.Sym, versions bool, name, ver string, want int) {
	t.Helper()
	if n := syms.Find(l, versions, name, ver); n != want {
		t.Errorf("Find(%q, %q), versions %v: %d, not %d", name, ver, versions, n, want)
	}
	if n := syms.NewIndex(l, versions).Find(name, ver); n != want {
		t.Errorf("Index.Find(%q, %q), versions %v: %d, not %d", name, ver, versions, n, want)
	}
}

// P10.2: a newer table that doesn't lead to a symbol that may be had.
func TestNewerLeads(t *testing.T) {
	for _, alone := range []bool{false, true} {
		// A table of four symbols in one row, turned.
		one := func(turn func(x *lib)) *lib {
			x := write(1, gnu{rows: 1, words: 1, shift: 6}, many(4)...)
			turn(x)
			if alone {
				x.only(newerTag)
			}
			return x
		}
		leads := func(what string, turn func(x *lib)) {
			t.Helper()
			check(t, what, one(turn), api.OK, manySaid(5)...)
		}
		fails := func(what string, turn func(x *lib)) {
			t.Helper()
			check(t, what, one(turn), api.ErrHash)
		}
		sum := func(number int) uint32 { return syms.Gnu(many(4)[number-1].name) }
		leads("as it is", func(x *lib) {})
		if !alone {
			fails("an empty row", func(x *lib) { x.put(x.newRow(0), 0) })
			fails("a row that begins behind all", func(x *lib) { x.put(x.newRow(0), 5); x.put(x.own(5), 1) })
		}
		fails("a row that begins behind the first", func(x *lib) { x.put(x.newRow(0), 2) })
		fails("a row that begins far away", func(x *lib) { x.put(x.newRow(0), math.MaxUint32) })
		for number := 1; number <= 4; number++ {
			for bit := range 32 {
				turned := func(x *lib) { x.put(x.own(number), x.get(x.own(number))^1<<bit) }
				switch {
				case bit > 0:
					fails("another sum", turned)
				case number < 4 && alone:
					check(t, "an odd one: there are but so many", one(turned), api.OK, manySaid(number+1)...)
				case number == 4 && !alone:
					leads("the last one isn't odd, which isn't asked", turned)
				default:
					fails("an odd one too early, or none", turned)
				}
			}
			fails("no bit of the sum", func(x *lib) { x.clearBit(0, sum(number)%64) })
			fails("no bit of the sum moved", func(x *lib) { x.clearBit(0, sum(number)>>6%64) })
		}
		leads("bits of others", func(x *lib) { copy(x.Image[x.filter(0):], "\xff\xff\xff\xff\xff\xff\xff\xff") })
		fails("no bits", func(x *lib) { copy(x.Image[x.filter(0):], make([]byte, 8)) })
		fails("another shift", func(x *lib) { x.put(gnuAt+12, 11) })
	}
}

// P10.2: names whose newer sums are 0 and 1: what isn't there isn't a word 0.
func TestNewerNought(t *testing.T) {
	for _, name := range []string{"glidpk", "glidpl"} {
		want := []api.Sym{{}, {Name: name, Bind: 1, Defined: true}}
		for word := range uint32(4) {
			x := write(1, gnu{rows: 1, words: 1}, sym{name, 0x10, 1, 0, 0})
			x.put(x.own(1), word)
			if word < 2 {
				check(t, "a word 0 or 1", x, api.OK, want...)
			} else {
				check(t, "another one", x, api.ErrHash)
			}
		}
		for cut := range uint64(9) {
			x := write(1, gnu{rows: 1, words: 1}, sym{name, 0x10, 1, 0, 0})
			const size = 16 + 8 + 4 + 4
			x.Move(gnuAt, thirdEnd-size+cut, size)
			x.Tags[0x6ffffef5] = thirdEnd - size + cut
			if cut == 0 {
				check(t, "there", x, api.OK, want...)
			} else {
				check(t, "not there", x, api.ErrHash)
			}
		}
	}
}

// P10.2: which filter word, which of its bits, and which row a newer sum is of.
func TestNewerPlaces(t *testing.T) {
	name := "flapenguin.me"
	sum := uint32(0x8ae9f18e)
	want := []api.Sym{{}, {Name: name, Bind: 1, Defined: true}}
	for _, words := range []uint32{1, 2, 4, 8, 16, 32, 64} {
		for shift := range uint32(32) {
			x := write(1, gnu{rows: words + 3, words: words, shift: shift}, sym{name, 0x10, 1, 0, 0})
			check(t, "as it is", x, api.OK, want...)
			word := 0x8ae9f18e / 64 % words
			for other := range words {
				for bit := range uint32(64) {
					if other == word && (bit == sum%64 || bit == sum>>shift%64) {
						continue
					}
					x.setBits(other, bit)
				}
			}
			check(t, "all other bits", x, api.OK, want...)
			x.clearBit(word, sum%64)
			check(t, "but its own", x, api.ErrHash)
			x.setBits(word, sum%64)
			check(t, "but its own, back again", x, api.OK, want...)
			x.clearBit(word, sum>>shift%64)
			check(t, "but its second", x, api.ErrHash)
			x.setBits(word, sum>>shift%64)
			row := sum % (words + 3)
			for other := range words + 3 {
				x.put(x.newRow(other), 1-x.get(x.newRow(other)))
			}
			if got := x.get(x.newRow(row)); got != 0 {
				t.Fatal(got)
			}
			check(t, "all other rows", x, api.ErrHash)
			x.put(x.newRow(row), 1)
			check(t, "all rows", x, api.OK, want...)
		}
	}
}

// P10.2: symbols from first on alone are led to by a newer table.
func TestNewerFirst(t *testing.T) {
	for first := uint32(1); first <= 6; first++ {
		x := write(1, gnu{rows: 1, words: 1, first: first}, many(4)...)
		copy(x.Image[x.filter(0):], "\xff\xff\xff\xff\xff\xff\xff\xff")
		if first == 1 {
			check(t, "all", x, api.OK, manySaid(5)...)
		} else {
			check(t, "not the first ones", x, api.ErrHash)
		}
		// Those ahead of first can't be had.
		l := many(4)
		said := manySaid(5)
		for i := range min(4, int(first)-1) {
			l[i].info = 0
			said[i+1].Bind = 0
		}
		if first <= 5 {
			check(t, "those ahead can't be had", write(1, gnu{rows: 1, words: 1, first: first}, l...), api.OK, said...)
			check(t, "the newer one alone", write(1, gnu{rows: 1, words: 1, first: first}, l...).only(newerTag), api.OK, said...)
		}
	}
	// A row that says less than first, though the words ahead of the symbols' look like theirs.
	x := write(1, gnu{rows: 1, words: 1, first: 2}, sym{"a", 0x10, 1, 0, 0}, sym{"b", 0x10, 1, 0, 0})
	copy(x.Image[x.filter(0):], "\xff\xff\xff\xff\xff\xff\xff\xff")
	x.put(x.newRow(0), 1)
	check(t, "below first", x, api.ErrHash)
}

// P10.2: no symbols, one, 256, 257.
func TestHowMany(t *testing.T) {
	for _, n := range []int{1, 2, 3, 255, 256} {
		x := write(7, gnu{rows: 5, words: 4, shift: 3}, many(n-1)...)
		check(t, "both", x, api.OK, manySaid(n)...)
		check(t, "the older", write(256, gnu{rows: 1, words: 1}, many(n-1)...).only(olderTag), api.OK, manySaid(n)...)
		check(t, "one row", write(1, gnu{rows: 1, words: 1}, many(n-1)...).only(olderTag), api.OK, manySaid(n)...)
		check(t, "the newer", write(1, gnu{rows: 256, words: 64, shift: 31}, many(n-1)...).only(newerTag), api.OK, manySaid(n)...)
	}
	check(t, "257", write(7, gnu{rows: 5, words: 4, shift: 3}, many(256)...), api.ErrSymtab)
	check(t, "257, the older", write(7, gnu{rows: 5, words: 4, shift: 3}, many(256)...).only(olderTag), api.ErrSymtab)
	check(t, "257, the newer", write(7, gnu{rows: 5, words: 4, shift: 3}, many(256)...).only(newerTag), api.ErrSymtab)
	for _, n := range []uint32{0, 257, 258, 1 << 8 << 8, 1 << 31, math.MaxUint32} {
		x := someLib()
		x.put(hashAt+4, n)
		check(t, "other numbers", x, api.ErrSymtab)
		check(t, "the older one alone", x.only(olderTag), api.ErrSymtab)
	}
	// Fewer than there are records: those behind aren't looked at.
	x := someLib().only(olderTag)
	x.put(hashAt+4, 9)
	check(t, "one fewer", x, api.OK, someSaid()[:9]...)
	x = write(1, gnu{rows: 1, words: 1}, many(4)...).only(olderTag)
	x.put(hashAt+4, 1)
	check(t, "just the empty one", x, api.OK, api.Sym{})
	// More: the records behind the last one are such as may not be.
	x = someLib().only(olderTag)
	x.put(hashAt+4, 11)
	check(t, "one more", x, api.ErrSymtab)
}

// P10.2: the records are all in one part's bytes of the file; so are the strings.
func TestRecordsPlace(t *testing.T) {
	size := uint64(24 * 10)
	places := []uint64{thirdAt - size, thirdAt - size - 1, secondAt, secondAt + 3, thirdEnd - size, thirdEnd - size - 1}
	for _, at := range places {
		x := someLib()
		x.Move(recordsAt, at, size)
		x.Tags[6] = at
		check(t, "elsewhere", x, api.OK, someSaid()...)
	}
	for _, at := range []uint64{thirdAt - size + 1, thirdAt - 24, thirdAt - 1, secondAt - 1, secondAt - 24, thirdEnd - size + 1, thirdEnd - 1, thirdEnd, thirdEnd + 8, 0, 1, 1 << 20} {
		x := someLib()
		if at > 500 && at < thirdEnd+100 {
			x.Move(recordsAt, at, size)
		}
		x.Tags[6] = at
		check(t, "in two parts, or none", x, api.ErrSymtab)
	}
	for n := range uint64(300) {
		check(t, "so far that a sum would wrap", someLib().at(6, huge-n), api.ErrSymtab)
		check(t, "as far as half of all", someLib().at(6, 1<<63+recordsAt-150+n), api.ErrSymtab)
	}
}

// P10.2: strings elsewhere than layer 9 found them, and where they end.
func TestStringsPlace(t *testing.T) {
	b := someLib().File()
	h, d := layers(t, b)
	size := d.Strings.Size
	for _, area := range []api.Area{
		{Has: true, At: thirdEnd - size + 1, Size: size}, {Has: true, At: 0, Size: secondAt + 1}, {Has: true, At: stringsAt, Size: huge},
		{Has: true, At: stringsAt, Size: 1 << 40}, {Has: true, At: huge, Size: size}, {Has: true, At: huge - size + 1, Size: size}, {Has: true, At: spanEnd},
	} {
		d.Strings = area
		if l, e := syms.Parse(b, h, d); e != api.ErrSymtab || len(l) != 0 {
			t.Errorf("strings at %+v: %v, %v", area, l, e)
		}
	}
	// One byte less: the last name has no end.
	for less := range uint64(70) {
		x := someLib()
		x.Tags[10] -= less
		want := api.OK
		if less > 0 {
			want = api.ErrSymtab
		}
		checkErr(t, "less of them", x, want)
	}
	// No name is asked for: strings of no bytes will do, none at all won't.
	x := write(1, gnu{rows: 1, words: 1})
	x.Tags[10] = 0
	check(t, "no strings", x, api.OK, api.Sym{})
	b = x.File()
	h, d = layers(t, b)
	d.Strings.At = spanEnd
	if l, e := syms.Parse(b, h, d); e != api.ErrSymtab || len(l) != 0 {
		t.Errorf("strings that aren't there: %v, %v", l, e)
	}
}

// P10.2: the first record is all 0.
func TestFirstRecord(t *testing.T) {
	for i := range 24 {
		for _, value := range []byte{1, 0x10, 0x80, 0xff} {
			x := someLib()
			x.Image[recordsAt+i] = value
			check(t, "a byte that isn't 0", x, api.ErrSymtab)
			check(t, "the older one alone", x.only(olderTag), api.ErrSymtab)
			y := write(1, gnu{rows: 1, words: 1})
			y.Image[recordsAt+i] = value
			check(t, "no others", y, api.ErrSymtab)
		}
	}
	// Text may stand at 0 among the strings: the first one's name isn't asked.
	x := someLib()
	x.Image[stringsAt] = ' '
	check(t, "a byte ahead of the strings", x, api.OK, someSaid()...)
}

// single: a library of one symbol, between others that may be had.
func single(s sym) *lib {
	return write(2, gnu{rows: 1, words: 1}, sym{"first", 0x10, 1, 5, 5}, s, sym{"last", 0x20, 1, 6, 6})
}

// checkSingle: such a library says the symbol so, or may not be.
func checkSingle(t *testing.T, what string, s sym, wantErr api.Errno, want api.Sym) {
	t.Helper()
	if wantErr != api.OK {
		check(t, what, single(s), wantErr)
		return
	}
	check(t, what, single(s), api.OK, api.Sym{}, api.Sym{Name: "first", Bind: 1, Defined: true, Value: 5, Size: 5}, want, api.Sym{Name: "last", Bind: 2, Defined: true, Value: 6, Size: 6})
}

// P10.2: names: texts that aren't empty, as long as a name may be.
func TestNames(t *testing.T) {
	for _, name := range []string{"a", "!", "~", "\"", "a.b@c", strings.Repeat("n", 63), strings.Repeat("n", 64)} {
		checkSingle(t, "a name", sym{name, 0x10, 1, 0, 0}, api.OK, api.Sym{Name: name, Bind: 1, Defined: true})
		checkSingle(t, "a name", sym{name, 0x10, 0, 0, 0}, api.OK, api.Sym{Name: name, Bind: 1})
		checkSingle(t, "a name", sym{name, 0x00, 1, 0, 0}, api.OK, api.Sym{Name: name, Defined: true})
	}
	for _, name := range []string{"", " ", "a b", "\x7f", "\x80", "\xff", "é", "a\n", "\x01", strings.Repeat("n", 65), strings.Repeat("n", 200)} {
		for _, s := range []sym{{name, 0x10, 1, 0, 0}, {name, 0x10, 0, 0, 0}, {name, 0x00, 1, 0, 0}} {
			checkSingle(t, "no name", s, api.ErrSymtab, api.Sym{})
		}
	}
	// Where the name stands: within another one, at the last byte, at the end, behind it, further than the memory.
	size := uint32(len("\x00first\x00f\x00last\x00"))
	for at, want := range map[uint32]string{1: "first", 3: "rst", 5: "t", 7: "f", 9: "last", 0: "", 6: "", size - 1: "", size - 2: "t", size: "", size + 1: "", 1 << 16: "", 1 << 31: "", math.MaxUint32: "", math.MaxUint32 - 7: ""} {
		x := single(sym{"f", 0x00, 1, 0, 0})
		x.record(2, at, sym{info: 0x00, where: 1})
		wanted := []api.Sym{{}, {Name: "first", Bind: 1, Defined: true, Value: 5, Size: 5}, {Name: want, Defined: true}, {Name: "last", Bind: 2, Defined: true, Value: 6, Size: 6}}
		if want == "" {
			check(t, "no name there", x, api.ErrSymtab)
		} else {
			check(t, "a name there", x, api.OK, wanted...)
		}
	}
}

// P10.2: bindings up to 2, types up to 2.
func TestInfo(t *testing.T) {
	for info := range 256 {
		bind, kind := info/16, info%16
		defined := sym{"s", byte(info), 1, 9, 3}
		asked := sym{"s", byte(info), 0, 0, 3}
		want, wantAsked := api.OK, api.OK
		if bind > 2 || kind > 2 {
			want, wantAsked = api.ErrSymtab, api.ErrSymtab
		}
		if bind == 0 {
			wantAsked = api.ErrSymtab
		}
		checkSingle(t, "Defined", defined, want, api.Sym{Name: "s", Bind: bind, Defined: true, Value: 9, Size: 3})
		checkSingle(t, "asked for", asked, wantAsked, api.Sym{Name: "s", Bind: bind, Size: 3})
	}
}

// P10.2: where a symbol is: in the library's span, parts or none, in the file or not; one that isn't Defined has the value 0.
func TestSymbolValues(t *testing.T) {
	for _, where := range []uint16{1, 2, 0x80, 0xff, 0x100, 0x8000, 0xfff1, 0xffff} {
		for _, size := range []uint64{0, 1, spanEnd, 1 << 32, 1 << 63, huge} {
			for _, value := range []uint64{0, 1, 255, thirdEnd - 1, thirdEnd, thirdEnd + 299, thirdEnd + 300, spanEnd - 256, spanEnd - 1} {
				for bind := range 3 {
					s := sym{"s", byte(16 * bind), where, value, size}
					checkSingle(t, "in the span", s, api.OK, api.Sym{Name: "s", Bind: bind, Defined: true, Value: value, Size: size})
				}
			}
			for _, value := range []uint64{spanEnd, spanEnd + 1, spanEnd + 256, 64*256 - 1, 64 * 256, 1 << 32, 1<<32 + 9, 1 << 63, 1<<63 + 9, huge, huge - size} {
				if value >= spanEnd {
					for bind := range 3 {
						checkSingle(t, "behind it", sym{"s", byte(16 * bind), where, value, size}, api.ErrSymtab, api.Sym{})
					}
				}
			}
		}
	}
	for _, size := range []uint64{0, 1, huge} {
		for bind := 1; bind < 3; bind++ {
			checkSingle(t, "asked for", sym{"s", byte(16 * bind), 0, 0, size}, api.OK, api.Sym{Name: "s", Bind: bind, Size: size})
			for _, value := range []uint64{1, 9, 256, 1 << 8, 1 << 32, 1 << 63, huge} {
				checkSingle(t, "asked for, with a value", sym{"s", byte(16 * bind), 0, value, size}, api.ErrSymtab, api.Sym{})
			}
		}
		checkSingle(t, "asked for, and Local", sym{"s", 0, 0, 0, size}, api.ErrSymtab, api.Sym{})
	}
	// Between two parts lies memory that is none's, in the span all the same.
	x := single(sym{"s", 0x10, 1, secondAt + 100, 1})
	x.Loads = append(x.Loads, api.Phdr{Flags: 6, Vaddr: 63 * 256, Memsz: 1})
	x.record(2, 7, sym{"s", 0x10, 1, 62 * 256, 1})
	checkOK(t, "between parts", x)
	x.record(2, 7, sym{"s", 0x10, 1, 64*256 - 1, 1})
	checkOK(t, "in the last page", x)
	x.record(2, 7, sym{"s", 0x10, 1, 64 * 256, 1})
	check(t, "behind it", x, api.ErrSymtab)
}

// P10.2: which error is named first.
func TestWhichFirst(t *testing.T) {
	spoilRecord := func(x *lib) *lib { x.Image[recordsAt] = 1; return x }
	spoilLater := func(x *lib) *lib { x.Image[recordsAt+24*9+4] = 0x33; return x }
	// How many there are can't be told, and the records are wrong.
	check(t, "no older table", spoilRecord(someLib()).at(4, spanEnd), api.ErrHash)
	x := spoilRecord(someLib()).only(newerTag)
	x.put(gnuAt, 0)
	check(t, "a newer table that can't be", x, api.ErrHash)
	x = spoilRecord(someLib()).only(newerTag)
	x.put(x.newRow(1), 1)
	check(t, "a row below first", x, api.ErrHash)
	x = spoilRecord(someLib()).only(newerTag)
	x.put(x.newRow(1), 500)
	check(t, "a row too far", x, api.ErrHash)
	// It can be told, the records are wrong, and the tables, too.
	for _, spoil := range []func(x *lib) *lib{spoilRecord, spoilLater} {
		x = spoil(someLib())
		x.put(hashAt, 0)
		check(t, "no rows", x, api.ErrSymtab)
		x = spoil(someLib())
		x.put(x.oldRow(0), 0, 0, 0)
		check(t, "rows that are empty", x, api.ErrSymtab)
		x = spoil(someLib())
		x.put(gnuAt, 0)
		check(t, "a newer table that can't be, not asked", x, api.ErrSymtab)
		x = spoil(someLib()).only(newerTag)
		copy(x.Image[x.filter(0):], make([]byte, 16))
		check(t, "no bits", x, api.ErrSymtab)
		check(t, "a newer table elsewhere", spoil(someLib()).at(0x6ffffef5, huge), api.ErrSymtab)
	}
	// The newer table is wrong, the older one isn't; and the other way round.
	x = someLib()
	x.put(gnuAt, 0)
	check(t, "the newer", x, api.ErrHash)
	check(t, "the older alone", x.only(olderTag), api.OK, someSaid()...)
	x = someLib()
	x.put(x.oldRow(0), 0, 0, 0)
	check(t, "the older", x, api.ErrHash)
	check(t, "the newer alone", x.only(newerTag), api.OK, someSaid()...)
	// The older one tells how many there are, whatever the newer one would.
	x = write(1, gnu{rows: 1, words: 1}, many(4)...)
	x.put(x.own(4), x.get(x.own(4))&^1)
	check(t, "a newer row without an end", x, api.OK, manySaid(5)...)
	check(t, "and alone", x.only(newerTag), api.ErrHash)
}

// P10.2: a newer table that alone says how many there are is asked at 0, too, if that is where it is; and then it isn't asked whether it leads to all.
func TestNewerAtNought(t *testing.T) {
	x := write(1, gnu{rows: 1, words: 1}, many(4)...).at(4, 0).at(0x6ffffef5, 0)
	b := x.File()
	// The first part of the memory stands elsewhere in the file: the table lies there.
	at := (len(b) + 255) / 256 * 256
	b = append(b, make([]byte, at+secondAt-len(b))...)
	copy(b[at:], x.Image[gnuAt:x.own(5)])
	copy(b[at+dynAt:], b[dynAt:secondAt])
	binary.LittleEndian.PutUint64(b[64+8:], uint64(at))
	h, says := layers(t, b)
	if says.Hash != 0 || says.GnuHash != 0 {
		t.Fatalf("%+v", says)
	}
	if l, e := syms.Parse(b, h, says); e != api.OK || !slices.Equal(l, manySaid(5)) {
		t.Error(l, e)
	}
}

// P10.3: by name: the first that may be had.
func TestFindNames(t *testing.T) {
	may := func(name string) api.Sym { return api.Sym{Name: name, Bind: 1, Defined: true} }
	l := []api.Sym{{}, {Name: "b", Bind: 1}, {Name: "c", Defined: true}, may("a"), may("b"), may("c"), may("a"), {Name: "d", Bind: 2}, {Name: "e", Bind: 0}, {Name: "w", Bind: 2, Defined: true}, may("aa"), may("\xff"), {Name: "odd", Bind: -7, Defined: true}}
	for _, versions := range []bool{false, true} {
		for name, want := range map[string]int{"a": 3, "b": 4, "c": 5, "w": 9, "aa": 10, "\xff": 11, "odd": 12, "": -1, "d": -1, "e": -1, "A": -1, "a\x00": -1, "aaa": -1} {
			checkFind(t, l, versions, name, "", want)
		}
		checkFind(t, nil, versions, "a", "", -1)
		checkFind(t, []api.Sym{}, versions, "", "", -1)
		checkFind(t, []api.Sym{{}}, versions, "", "", -1)
		checkFind(t, []api.Sym{may("")}, versions, "", "", 0)
	}
}

// P10.3: of one name: hidden or not, of this version or that, with and without versions of the library's own.
func TestFindVersions(t *testing.T) {
	of := func(ver string, hidden bool) api.Sym {
		return api.Sym{Name: "a", Ver: ver, Hidden: hidden, Bind: 2, Defined: true}
	}
	local := api.Sym{Name: "a", Ver: "V", Defined: true}
	asked := api.Sym{Name: "a", Ver: "V", Bind: 1}
	for _, x := range []struct {
		l               []api.Sym
		none, v, w, any int // asked for none; for V, W, of a library with versions; for V of one without
	}{
		{l: []api.Sym{of("", false)}, none: 0, v: -1, w: -1, any: 0},
		{l: []api.Sym{of("V", false)}, none: 0, v: 0, w: -1, any: 0},
		{l: []api.Sym{of("V", true)}, none: -1, v: 0, w: -1, any: 0},
		{l: []api.Sym{of("", true)}, none: -1, v: -1, w: -1, any: 0},
		{l: []api.Sym{of("V", true), of("W", false)}, none: 1, v: 0, w: 1, any: 0},
		{l: []api.Sym{of("W", false), of("V", true)}, none: 0, v: 1, w: 0, any: 0},
		{l: []api.Sym{of("V", true), of("W", true)}, none: -1, v: 0, w: 1, any: 0},
		{l: []api.Sym{of("V", true), of("V", false)}, none: 1, v: 0, w: -1, any: 0},
		{l: []api.Sym{of("V", false), of("V", true)}, none: 0, v: 0, w: -1, any: 0},
		{l: []api.Sym{local, asked, of("V", false)}, none: 2, v: 2, w: -1, any: 2},
		{l: []api.Sym{local, asked}, none: -1, v: -1, w: -1, any: -1},
		{l: []api.Sym{of("", true), of("", false), of("W", true), of("V", false)}, none: 1, v: 3, w: 2, any: 0},
	} {
		checkFind(t, x.l, true, "a", "", x.none)
		checkFind(t, x.l, false, "a", "", x.none)
		checkFind(t, x.l, true, "a", "V", x.v)
		checkFind(t, x.l, true, "a", "W", x.w)
		checkFind(t, x.l, false, "a", "V", x.any)
		checkFind(t, x.l, false, "a", "W", x.any)
		checkFind(t, x.l, false, "a", "no such one", x.any)
		checkFind(t, x.l, true, "a", "no such one", -1)
		checkFind(t, x.l, false, "b", "V", -1)
	}
}

// P10.3, rule 5: an index keeps nothing of the list, and what it answers is the same each time.
func TestIndexKeepsNothing(t *testing.T) {
	l := []api.Sym{{Name: "a", Ver: "V", Hidden: true, Bind: 1, Defined: true}, {Name: "a", Bind: 1, Defined: true}, {Name: "b", Bind: 1, Defined: true}, {Name: "late", Bind: 1, Defined: true}}
	was := slices.Clone(l)
	x, y := syms.NewIndex(l[:3], true), syms.NewIndex(l[:3], false)
	if !slices.Equal(l, was) {
		t.Error("the list is another one")
	}
	clear(l)
	for range 3 {
		for _, ask := range []struct {
			name, ver string
			want, any int
		}{{"a", "", 1, 1}, {"a", "V", 0, 0}, {"a", "W", -1, 0}, {"b", "", 2, 2}, {"b", "V", -1, 2}, {"late", "", -1, -1}, {"", "", -1, -1}, {"c", "", -1, -1}} {
			if n := x.Find(ask.name, ask.ver); n != ask.want {
				t.Errorf("%v: %d", ask, n)
			}
			if n := y.Find(ask.name, ask.ver); n != ask.any {
				t.Errorf("%v: %d", ask, n)
			}
		}
	}
}

func checkNear(t *testing.T, l []api.Sym, at uint64, want int) {
	t.Helper()
	if n := syms.Near(l, at); n != want {
		t.Errorf("Near(%d): %d, not %d", at, n, want)
	}
}

// P10.3: in whose bytes a place lies.
func TestNear(t *testing.T) {
	may := func(value, size uint64) api.Sym {
		return api.Sym{Name: "a", Bind: 1, Defined: true, Value: value, Size: size}
	}
	one := []api.Sym{{}, may(8, 4)}
	for at, want := range map[uint64]int{0: -1, 7: -1, 8: 1, 9: 1, 11: 1, 12: -1, 13: -1, huge: -1, 1<<32 + 8: -1} {
		checkNear(t, one, at, want)
	}
	for _, size := range []uint64{0, 1} {
		l := []api.Sym{may(8, size)}
		for at, want := range map[uint64]int{0: -1, 7: -1, 8: 0, 9: -1, huge: -1} {
			checkNear(t, l, at, want)
		}
	}
	// Over one another: the one that begins last counts, however great it is; of two that begin there the first.
	over := []api.Sym{may(0, 100), may(20, 10), may(25, 50), may(20, 60), may(25, 1), may(25, 0), may(90, 0)}
	for at, want := range map[uint64]int{0: 0, 19: 0, 20: 1, 24: 1, 25: 2, 26: 2, 74: 2, 75: 3, 79: 3, 80: 0, 89: 0, 90: 6, 91: 0, 99: 0, 100: -1} {
		checkNear(t, over, at, want)
	}
	slices.Reverse(over)
	for at, want := range map[uint64]int{0: 6, 19: 6, 20: 3, 24: 3, 25: 1, 26: 4, 74: 4, 75: 3, 79: 3, 80: 6, 90: 0, 99: 6, 100: -1} {
		checkNear(t, over, at, want)
	}
	// Just those that may be had; by what name or version isn't asked.
	not := []api.Sym{{Value: 30, Size: 9, Bind: 1}, {Value: 30, Size: 9, Defined: true}, {Value: 5, Size: 90, Bind: 2, Defined: true, Hidden: true, Ver: "V"}, {Value: 30, Size: 9, Bind: 2}}
	checkNear(t, not, 30, 2)
	checkNear(t, not[:2], 30, -1)
	checkNear(t, nil, 0, -1)
	checkNear(t, []api.Sym{{}}, 0, -1)
	// So great that where they end would wrap: they reach to the last place, and not round.
	far := []api.Sym{may(8, huge), may(16, huge-15), may(huge-1, 9), may(huge, 0)}
	for at, want := range map[uint64]int{0: -1, 7: -1, 8: 0, 15: 0, 16: 1, 1 << 63: 1, huge - 2: 1, huge - 1: 2, huge: 3} {
		checkNear(t, far, at, want)
	}
	checkNear(t, far[:3], huge, 2)
	checkNear(t, far[:2], huge, 1)
	checkNear(t, far[1:2], 0, -1)
	checkNear(t, []api.Sym{may(0, huge)}, huge, -1)
	checkNear(t, []api.Sym{may(1, huge)}, huge, 0)
	checkNear(t, []api.Sym{may(0, huge)}, huge-1, 0)
}

// Rule 5: what is handed in isn't changed, what is answered is new; what lies behind a list's length isn't read.
func TestMemory(t *testing.T) {
	b := someLib().File()
	h, d := layers(t, b)
	loads, was := slices.Clone(h.Loads), slices.Clone(b)
	l, e := syms.Parse(b, h, d)
	if e != api.OK || !bytes.Equal(b, was) || !slices.Equal(h.Loads, loads) {
		t.Error("the arguments aren't as they were", e)
	}
	clear(b)
	if !slices.Equal(l, someSaid()) {
		t.Error("what was answered hangs on the bytes")
	}
	// A file that ends within its last part, whose bytes are there behind its length.
	end := 0
	for _, p := range h.Loads {
		end = max(end, int(p.Off+p.Filesz))
	}
	copy(b, was)
	for _, less := range []int{6409, 6432, 6600, 6656} { // the records stand at the part's beginning
		short := b[:end-less]
		if l, e := syms.Parse(short, h, d); e == api.OK || len(l) != 0 {
			t.Errorf("%d fewer bytes: %v, %v", less, l, e)
		}
	}
}
