package aps_test

import (
	"bytes"
	"math"
	"slices"
	"strings"
	"testing"

	"messuage/api"
	"messuage/aps"
)

const (
	most    = 512           // relocations of a list
	lowest  = math.MinInt64 // numbers with their signs go from here
	highest = math.MaxInt64 // up to here
)

// number: a number with its sign in so many groups of seven bits, or in as few as say it, if that is more.
func number(n int64, groups int) []byte {
	var b []byte
	for {
		group := byte(n & 127)
		n >>= 7
		if len(b)+1 >= groups && (n == 0 && group < 64 || n == -1 && group >= 64) {
			return append(b, group)
		}
		b = append(b, group|128)
	}
}

// listOf: the bytes APS2, and numbers.
func listOf(numbers ...int64) []byte {
	b := []byte("APS2")
	for _, n := range numbers {
		b = append(b, number(n, 1)...)
	}
	return b
}

// rel: a relocation of a list without what is added.
func rel(at uint64, kind, sym uint32) api.Rel { return api.Rel{At: at, Type: kind, Sym: sym} }

// rela: a relocation of a list with what is added.
func rela(at uint64, kind, sym uint32, add int64) api.Rel {
	return api.Rel{At: at, Type: kind, Sym: sym, Add: add, Has: true}
}

// checkRels: these bytes are these relocations.
func checkRels(t *testing.T, b []byte, with bool, want ...api.Rel) {
	t.Helper()
	if l, e := aps.Decode(b, with); e != api.OK || !slices.Equal(l, want) {
		t.Errorf("Decode(%v, %v): %+v, %v, not %+v", b, with, l, e, want)
	}
}

// checkNoRels: these bytes are none.
func checkNoRels(t *testing.T, b []byte, with bool) {
	t.Helper()
	if l, e := aps.Decode(b, with); e != api.ErrAps || len(l) != 0 {
		t.Errorf("Decode(%v, %v): %+v, %v", b, with, l, e)
	}
}

// checkNeither: these bytes are no relocations, with what is added and without.
func checkNeither(t *testing.T, b []byte) {
	t.Helper()
	checkNoRels(t, b, false)
	checkNoRels(t, b, true)
}

// checkBytes: these relocations have these bytes, and back.
func checkBytes(t *testing.T, l []api.Rel, with bool, want []byte) {
	t.Helper()
	if b, e := aps.Encode(l, with); e != api.OK || !bytes.Equal(b, want) {
		t.Errorf("Encode(%+v, %v): %v, %v, not %v", l, with, b, e, want)
	}
	checkRels(t, want, with, l...)
}

// checkNoBytes: these relocations have none.
func checkNoBytes(t *testing.T, l []api.Rel, with bool) {
	t.Helper()
	if b, e := aps.Encode(l, with); e != api.ErrAps || len(b) != 0 {
		t.Errorf("Encode of %d relocations, %v: %v, %v", len(l), with, b, e)
	}
}

// P14.1, P14.2: the chapter's own examples.
func TestExamples(t *testing.T) {
	checkBytes(t, []api.Rel{rela(16, 8, 0, 3)}, true, []byte("APS2\x01\x00\x01\x09\x08\x10\x03"))
	checkRels(t, []byte("APS2\x00\x00"), false)
	checkRels(t, []byte("APS2\x00\x00"), true)
}

// P14.1: no bytes, a part of the beginning alone, and other beginnings.
func TestBeginning(t *testing.T) {
	checkNeither(t, nil)
	checkNeither(t, []byte{})
	whole := "APS2\x01\x00\x01\x01\x08\x10"
	checkRels(t, []byte(whole), false, rel(16, 8, 0))
	checkRels(t, []byte(whole), true, rela(16, 8, 0, 0))
	for n := range 4 {
		checkNeither(t, []byte(whole[:n]))
		checkNeither(t, []byte(whole[:n]+whole[4:]))
		for bit := range 8 {
			b := []byte(whole)
			b[n] ^= 1 << bit
			checkNeither(t, b)
		}
	}
	for _, s := range []string{"APS1", "APS3", "APA2", "APR1", "aps2", "2SPA", " APS2", "\x00APS2"} {
		checkNeither(t, []byte(s+whole[4:]))
		checkNeither(t, []byte(s))
	}
	checkNeither(t, []byte(whole[4:]))
	checkNeither(t, []byte(whole[:4]+whole))
}

// P14.1: behind APS2 there are how many and a place, though there are none.
func TestNone(t *testing.T) {
	checkNeither(t, listOf())
	checkNeither(t, listOf(0))
	for _, place := range []int64{0, 1, -1, 64, lowest, highest} {
		for _, with := range []bool{false, true} {
			checkRels(t, listOf(0, place), with)
		}
		checkNeither(t, listOf(0, place, 0))
		checkNeither(t, listOf(0, place, 1))
		checkNeither(t, listOf(0, place, 1, 3, 8, 8))
	}
}

// full: a list that has a number at each place where one may stand, and its relocations.
func full() ([]int64, []api.Rel) {
	numbers := []int64{
		9, 1000,
		2, 0, 8, 1<<32 | 5, -24, 2<<32 | 6,
		1, 15, 300, 3<<32 | 7, 70,
		2, 8, 4, 9, -100, 4, 9, 1,
		2, 13, 1 << 40, 33, 8, 16,
		2, 10, 100, 12, -5, 13, -6,
	}
	return numbers, []api.Rel{
		rela(1008, 5, 1, 0),
		rela(984, 6, 2, 0),
		rela(1284, 7, 3, 70),
		rela(1288, 9, 0, -30),
		rela(1292, 9, 0, -29),
		rela(1300, 0, 1<<8, 4),
		rela(1316, 0, 1<<8, 4),
		rela(1416, 12, 0, -1),
		rela(1516, 13, 0, -7),
	}
}

// P14.1: numbers that can't be read, at each place where one stands.
func TestUnread(t *testing.T) {
	numbers, want := full()
	checkRels(t, listOf(numbers...), true, want...)
	nines := bytes.Repeat([]byte{128}, 9)
	wrong := [][]byte{
		bytes.Repeat([]byte{128}, 10),
		bytes.Repeat([]byte{255}, 11),
		append(slices.Clone(nines), 1),
		append(slices.Clone(nines), 64),
		append(slices.Clone(nines), 126),
		append(slices.Clone(nines), 128, 0),
	}
	for i := range numbers {
		ahead, behind := listOf(numbers[:i]...), listOf(numbers[i+1:]...)[4:]
		checkNoRels(t, ahead, true) // no number
		checkNoRels(t, append(slices.Clone(ahead), 128), true)
		checkNoRels(t, append(slices.Clone(ahead), nines...), true)
		for _, b := range wrong {
			checkNoRels(t, slices.Concat(ahead, b), true)
			checkNoRels(t, slices.Concat(ahead, b, behind), true)
		}
	}
	whole := listOf(numbers...)
	for n := range whole {
		checkNoRels(t, whole[:n], true)
	}
}

// P14.1: numbers of more groups than they want say the same.
func TestMoreGroups(t *testing.T) {
	numbers, want := full()
	for groups := range 11 {
		all := []byte("APS2")
		for i, n := range numbers {
			one := slices.Concat(listOf(numbers[:i]...), number(n, groups), listOf(numbers[i+1:]...)[4:])
			checkRels(t, one, true, want...)
			all = append(all, number(n, groups)...)
		}
		checkRels(t, all, true, want...)
	}
}

// P14.1: how many there are.
func TestMany(t *testing.T) {
	for _, many := range []int64{-1, -2, -64, -65, -512, lowest, most + 1, 1024, 1 << 31, 1 << 32, 1<<32 + 1, highest} {
		checkNeither(t, listOf(many, 0))
		checkNeither(t, listOf(many, 0, 1, 3, 8, 8))
		checkNeither(t, listOf(many, 0, many, 3, 8, 8))
	}
	for _, many := range []int64{1, 2, 63, 64, most - 1, most} {
		var want, wantWith []api.Rel
		for i := range uint64(many) {
			want = append(want, rel(8+8*i, 6, 0))
			wantWith = append(wantWith, rela(8+8*i, 6, 0, 0))
		}
		checkRels(t, listOf(many, 0, many, 3, 8, 6), false, want...)
		checkRels(t, listOf(many, 0, many, 3, 8, 6), true, wantWith...)
		checkNeither(t, listOf(many, 0, many-1, 3, 8, 6))
		checkNeither(t, listOf(many, 0, many+1, 3, 8, 6))
		if many > 1 {
			checkRels(t, listOf(many, 0, 1, 3, 8, 6, many-1, 3, 8, 6), false, want...)
		}
	}
	// A group for each of as many as may be, and for one more.
	for _, many := range []int64{most, most + 1} {
		numbers := []int64{many, 0}
		var want []api.Rel
		for i := range uint64(many) {
			numbers = append(numbers, 1, 0, 8, 6)
			want = append(want, rel(8+8*i, 6, 0))
		}
		if many <= most {
			checkRels(t, listOf(numbers...), false, want...)
		} else {
			checkNeither(t, listOf(numbers...))
		}
	}
}

// P14.1: how many relocations a group has.
func TestGroups(t *testing.T) {
	five := []api.Rel{rel(8, 6, 0), rel(16, 6, 0), rel(24, 7, 0), rel(32, 7, 0), rel(40, 7, 0)}
	checkRels(t, listOf(5, 0, 2, 3, 8, 6, 3, 3, 8, 7), false, five...)
	checkRels(t, listOf(5, 0, 2, 3, 8, 6, 2, 3, 8, 7, 1, 3, 8, 7), false, five...)
	wrong := []int64{0, -1, -2, -3, -5, lowest, 6, 512, 1<<32 + 3, 1<<32 + 5, -1<<32 + 3, highest}
	for _, many := range wrong {
		checkNeither(t, listOf(5, 0, many, 3, 8, 6, 3, 3, 8, 7))
		checkNeither(t, listOf(5, 0, 2, 3, 8, 6, many, 3, 8, 7))
		checkNeither(t, listOf(5, 0, 2, 3, 8, 6, many, 3, 8, 7, 5-many-2, 3, 8, 7))
		checkNeither(t, listOf(5, 0, many, 3, 8, 6, 5, 3, 8, 6))
	}
	for _, many := range []int64{4, 5} { // as many as there are, but no more so many left
		checkNeither(t, listOf(5, 0, 2, 3, 8, 6, many, 3, 8, 7))
	}
	checkNeither(t, listOf(5, 0, 2, 3, 8, 6))             // groups are lacking
	checkNeither(t, listOf(5, 0, 2, 3, 8, 6, 2, 3, 8, 7)) // one is
}

// flagged: a list of two groups, the second of so many relocations with some flags, and its relocations, of which each number tells what it is.
func flagged(flags int64, many int) ([]byte, []api.Rel) {
	numbers := []int64{int64(many) + 1, 40, 1, 9, 7, 60, 1000, int64(many), flags}
	want := []api.Rel{rela(100, 7, 0, 1000)}
	at, add := uint64(100), int64(1000)
	if flags&8 == 0 {
		add = 0
	}
	if flags&2 != 0 {
		numbers = append(numbers, 11)
	}
	if flags&1 != 0 {
		numbers = append(numbers, 5<<32+6)
	}
	if flags&12 == 12 {
		numbers = append(numbers, 20)
		add += 20
	}
	for i := range many {
		step, kind := uint64(11), uint32(6)
		if flags&2 == 0 {
			step = 30 + uint64(i)
			numbers = append(numbers, int64(step))
		}
		if flags&1 == 0 {
			kind = 70 + uint32(i)
			numbers = append(numbers, 5<<32+int64(kind))
		}
		if flags&12 == 8 {
			numbers = append(numbers, 200+int64(i))
			add += 200 + int64(i)
		}
		at += step
		want = append(want, rela(at, kind, 5, add))
	}
	return listOf(numbers...), want
}

// P14.1: each of the flags, with rela and without.
func TestFlags(t *testing.T) {
	for flags := range int64(16) {
		for _, many := range []int{1, 2, 3, 20} {
			b, want := flagged(flags, many)
			checkRels(t, b, true, want...)
			checkNoRels(t, b, false) // the first group has 8
			// The second group by itself.
			b = slices.Concat(listOf(int64(many), 100), b[len(listOf(0, 40, 1, 9, 7, 60, 1000)):])
			want = slices.Clone(want[1:])
			if flags&8 != 0 {
				for i := range want {
					want[i].Add -= 1000
				}
				checkRels(t, b, true, want...)
				checkNoRels(t, b, false)
				continue
			}
			checkRels(t, b, true, want...)
			for i := range want {
				want[i].Has = false
			}
			checkRels(t, b, false, want...)
		}
	}
}

// P14.1: flags that there aren't, whatever follows.
func TestNoFlags(t *testing.T) {
	wrong := []int64{16, 17, 19, 31, 32, 63, 64, 128, 256, 1 << 16, 1 << 31, 1 << 32, 1<<32 + 3, highest, -1, -2, -8, -13, -16, -1 << 32, lowest, lowest + 3}
	for _, flags := range wrong {
		for low := range int64(16) {
			b, _ := flagged(low, 1)
			ahead := len(listOf(0, 40, 1, 9, 7, 60, 1000, 0))
			checkNeither(t, slices.Concat(b[:ahead], number(flags, 1), b[ahead+1:]))
			checkNeither(t, slices.Concat(listOf(1, 100, 1, flags), b[ahead+1:]))
		}
		checkNeither(t, listOf(1, 0, 1, flags, 8, 6, 1))
	}
}

// P14.1: places and steps that go round.
func TestRound(t *testing.T) {
	checkRels(t, listOf(1, -8, 1, 3, 8, 6), false, rel(0, 6, 0))
	checkRels(t, listOf(1, -8, 1, 3, 0, 6), false, rel(math.MaxUint64-7, 6, 0))
	checkRels(t, listOf(1, 0, 1, 3, -1, 6), false, rel(math.MaxUint64, 6, 0))
	checkRels(t, listOf(2, -1, 2, 3, 1, 6), false, rel(0, 6, 0), rel(1, 6, 0))
	checkRels(t, listOf(2, highest, 2, 3, 1, 6), false, rel(1<<63, 6, 0), rel(1<<63+1, 6, 0))
	checkRels(t, listOf(3, lowest, 3, 3, lowest, 6), false, rel(0, 6, 0), rel(1<<63, 6, 0), rel(0, 6, 0))
	checkRels(t, listOf(3, highest, 3, 3, highest, 6), false, rel(math.MaxUint64-1, 6, 0), rel(1<<63-3, 6, 0), rel(math.MaxUint64-3, 6, 0))
	checkRels(t, listOf(3, 16, 3, 1, 6, -8, -8, -8), false, rel(8, 6, 0), rel(0, 6, 0), rel(math.MaxUint64-7, 6, 0))
	checkRels(t, listOf(2, 0, 1, 0, -8, 6, 1, 0, 16, 7), false, rel(math.MaxUint64-7, 6, 0), rel(8, 7, 0))
	checkRels(t, listOf(3, 5, 3, 3, 0, 6), false, rel(5, 6, 0), rel(5, 6, 0), rel(5, 6, 0))
}

// P14.1: a relocation's place counts from the one ahead, across groups too.
func TestPlaces(t *testing.T) {
	checkRels(t, listOf(4, 100, 2, 3, 8, 6, 1, 1, 7, 1000, 1, 2, 50, 9), false,
		rel(108, 6, 0), rel(116, 6, 0), rel(1116, 7, 0), rel(1166, 9, 0))
}

// P14.1: numbers for type and symbol.
func TestTypeAndSymbol(t *testing.T) {
	cases := []struct {
		info      int64
		kind, sym uint32
	}{
		{0, 0, 0},
		{1, 1, 0},
		{6, 6, 0},
		{1 << 32, 0, 1},
		{1<<32 - 1, math.MaxUint32, 0},
		{1 << 31, 1 << 31, 0},
		{7<<32 | 3, 3, 7},
		{-1, math.MaxUint32, math.MaxUint32},
		{-2, math.MaxUint32 - 1, math.MaxUint32},
		{-1 << 32, 0, math.MaxUint32},
		{-1<<32 + 5, 5, math.MaxUint32},
		{lowest, 0, 1 << 31},
		{lowest + 1, 1, 1 << 31},
		{highest, math.MaxUint32, math.MaxInt32},
		{highest - math.MaxUint32, 0, math.MaxInt32},
	}
	for _, c := range cases {
		checkRels(t, listOf(1, 0, 1, 3, 8, c.info), false, rel(8, c.kind, c.sym))
		checkRels(t, listOf(1, 0, 1, 0, 8, c.info), false, rel(8, c.kind, c.sym))
		checkRels(t, listOf(1, 0, 1, 9, c.info, 8, 5), true, rela(8, c.kind, c.sym, 5))
		checkBytes(t, []api.Rel{rel(8, c.kind, c.sym)}, false, listOf(1, 0, 1, 1, c.info, 8))
		checkBytes(t, []api.Rel{rela(8, c.kind, c.sym, 5)}, true, listOf(1, 0, 1, 9, c.info, 8, 5))
	}
}

// P14.1: what is added more, which goes round.
func TestAdded(t *testing.T) {
	checkRels(t, listOf(3, 0, 3, 11, 8, 6, 5, -7, 1), true, rela(8, 6, 0, 5), rela(16, 6, 0, -2), rela(24, 6, 0, -1))
	checkRels(t, listOf(3, 0, 3, 11, 8, 6, highest, 1, -1), true, rela(8, 6, 0, highest), rela(16, 6, 0, lowest), rela(24, 6, 0, highest))
	checkRels(t, listOf(3, 0, 3, 11, 8, 6, lowest, lowest, -1), true, rela(8, 6, 0, lowest), rela(16, 6, 0, 0), rela(24, 6, 0, -1))
	// It is the group's: all of them have it, and the next group goes on from it.
	checkRels(t, listOf(3, 0, 3, 15, 8, 6, 5), true, rela(8, 6, 0, 5), rela(16, 6, 0, 5), rela(24, 6, 0, 5))
	checkRels(t, listOf(4, 0, 2, 15, 8, 6, 5, 2, 15, 8, 6, -3), true,
		rela(8, 6, 0, 5), rela(16, 6, 0, 5), rela(24, 6, 0, 2), rela(32, 6, 0, 2))
	checkRels(t, listOf(3, 0, 2, 15, 8, 6, highest, 1, 15, 8, 6, 2), true,
		rela(8, 6, 0, highest), rela(16, 6, 0, highest), rela(24, 6, 0, lowest+1))
	checkRels(t, listOf(4, 0, 2, 15, 8, 6, 5, 2, 11, 8, 6, 10, 100), true,
		rela(8, 6, 0, 5), rela(16, 6, 0, 5), rela(24, 6, 0, 15), rela(32, 6, 0, 115))
	checkRels(t, listOf(3, 0, 2, 11, 8, 6, 10, 100, 1, 15, 8, 6, 5), true,
		rela(8, 6, 0, 10), rela(16, 6, 0, 110), rela(24, 6, 0, 115))
}

// P14.1: a group without 8 begins with nothing added, and what is behind it goes on from there.
func TestNothingAdded(t *testing.T) {
	for _, without := range []int64{3, 7} {
		for _, with := range []int64{11, 15} {
			checkRels(t, listOf(3, 0, 1, with, 8, 6, 5, 1, without, 8, 7, 1, with, 8, 6, 9), true,
				rela(8, 6, 0, 5), rela(16, 7, 0, 0), rela(24, 6, 0, 9))
			checkRels(t, listOf(3, 0, 1, without, 8, 7, 1, with, 8, 6, 9, 1, with, 8, 6, 9), true,
				rela(8, 7, 0, 0), rela(16, 6, 0, 9), rela(24, 6, 0, 18))
			checkRels(t, listOf(4, 0, 1, with, 8, 6, lowest, 2, without, 8, 7, 1, with, 8, 6, -1), true,
				rela(8, 6, 0, lowest), rela(16, 7, 0, 0), rela(24, 7, 0, 0), rela(32, 6, 0, -1))
		}
		checkRels(t, listOf(2, 0, 2, without, 8, 7), true, rela(8, 7, 0, 0), rela(16, 7, 0, 0))
		checkRels(t, listOf(2, 0, 2, without, 8, 7), false, rel(8, 7, 0), rel(16, 7, 0))
	}
}

// P14.1: bytes behind the last group.
func TestBehind(t *testing.T) {
	numbers, _ := full()
	for _, whole := range [][]byte{listOf(0, 0), listOf(1, 0, 1, 3, 8, 6), listOf(2, 0, 1, 3, 8, 6, 1, 0, 8, 6), listOf(numbers...)} {
		for _, behind := range []string{"\x00", "\x01", "\x80", "\xff", "\x00\x00\x00\x00", "APS2", "\x01\x03\x08\x06", strings.Repeat("\x80", 10)} {
			checkNeither(t, append(slices.Clone(whole), behind...))
		}
	}
}

// P14.2: no relocations.
func TestEncodeNone(t *testing.T) {
	for _, with := range []bool{false, true} {
		checkBytes(t, nil, with, []byte("APS2\x00\x00"))
		checkBytes(t, []api.Rel{}, with, []byte("APS2\x00\x00"))
	}
}

// alike: so many relocations of one type and symbol.
func alike(many int, with bool) []api.Rel {
	var l []api.Rel
	for i := range many {
		l = append(l, api.Rel{At: 8 * uint64(i), Type: 8, Sym: 1, Has: with})
	}
	return l
}

// P14.2: as many as may be, and more.
func TestEncodeMany(t *testing.T) {
	for _, with := range []bool{false, true} {
		for _, many := range []int{most - 1, most} {
			numbers := []int64{int64(many), 0, int64(many), 1, 1<<32 + 8}
			if with {
				numbers[3] = 9
			}
			for i := range many {
				numbers = append(numbers, 8*int64(min(i, 1)))
				if with {
					numbers = append(numbers, 0)
				}
			}
			checkBytes(t, alike(many, with), with, listOf(numbers...))
		}
		for _, more := range []int{1, 2, most, 100000} {
			checkNoBytes(t, alike(most+more, with), with)
		}
	}
	// No two in a row alike: a group for each.
	numbers := []int64{most, 0}
	l := alike(most, false)
	for i := range l {
		l[i].Sym = uint32(i % 2)
		numbers = append(numbers, 1, 1, 8+int64(i%2)<<32, 8*int64(min(i, 1)))
	}
	checkBytes(t, l, false, listOf(numbers...))
	checkNoBytes(t, append(l, rel(0, 0, 0)), false)
}

// P14.2: relocations that a list can't say, wherever they stand.
func TestEncodeWrong(t *testing.T) {
	for _, where := range []int{0, 1, 4, most - 1} {
		for _, with := range []bool{false, true} {
			l := alike(most, with)
			l[where].Has = !with
			checkNoBytes(t, l, with)
			l[where].Type++
			checkNoBytes(t, l, with)
		}
		for _, add := range []int64{1, -1, 16, 1 << 32, lowest, highest} {
			l := alike(most, false)
			l[where].Add = add
			checkNoBytes(t, l, false)
		}
	}
	for _, add := range []int64{0, 1, lowest} {
		checkNoBytes(t, []api.Rel{rela(8, 6, 0, add)}, false)
		checkNoBytes(t, []api.Rel{{At: 8, Type: 6, Add: add}}, true)
	}
	checkNoBytes(t, []api.Rel{{At: 8, Type: 6, Add: 1}}, false)
}

// P14.2: rows of the same Type and Sym, and such that differ in one of them alone.
func TestEncodeRows(t *testing.T) {
	checkBytes(t, []api.Rel{rel(8, 6, 1), rel(16, 6, 1), rel(24, 6, 1)}, false, listOf(3, 0, 3, 1, 1<<32+6, 8, 8, 8))
	checkBytes(t, []api.Rel{rel(8, 6, 1), rel(16, 7, 1), rel(24, 7, 1)}, false, listOf(3, 0, 1, 1, 1<<32+6, 8, 2, 1, 1<<32+7, 8, 8))
	checkBytes(t, []api.Rel{rel(8, 6, 1), rel(16, 6, 1), rel(24, 6, 2)}, false, listOf(3, 0, 2, 1, 1<<32+6, 8, 8, 1, 1, 2<<32+6, 8))
	checkBytes(t, []api.Rel{rel(8, 6, 7), rel(16, 7, 6)}, false, listOf(2, 0, 1, 1, 7<<32+6, 8, 1, 1, 6<<32+7, 8))
	// Alike ones that aren't in a row are no row.
	checkBytes(t, []api.Rel{rel(8, 6, 1), rel(16, 7, 1), rel(24, 6, 1)}, false,
		listOf(3, 0, 1, 1, 1<<32+6, 8, 1, 1, 1<<32+7, 8, 1, 1, 1<<32+6, 8))
	// A row's relocations are held against each other in all bits.
	checkBytes(t, []api.Rel{rel(0, 1, 0), rel(0, 1<<31+1, 0), rel(0, 1, 1<<31)}, false,
		listOf(3, 0, 1, 1, 1, 0, 1, 1, 1<<31+1, 0, 1, 1, lowest+1, 0))
	// Places and what is added make no rows.
	checkBytes(t, []api.Rel{rela(8, 6, 0, 5), rela(8, 6, 0, 5), rela(24, 6, 0, 4)}, true,
		listOf(3, 0, 3, 9, 6, 8, 5, 0, 0, 16, -1))
}

// P14.2: places that fall, and what is added that falls; across groups, too; steps that go round.
func TestEncodeSteps(t *testing.T) {
	checkBytes(t, []api.Rel{rel(100, 6, 0), rel(36, 6, 0), rel(0, 7, 0), rel(math.MaxUint64, 7, 0)}, false,
		listOf(4, 0, 2, 1, 6, 100, -64, 2, 1, 7, -36, -1))
	checkBytes(t, []api.Rel{rel(1<<63, 6, 0), rel(0, 6, 0), rel(1<<63-1, 6, 0), rel(math.MaxUint64, 6, 0)}, false,
		listOf(4, 0, 4, 1, 6, lowest, lowest, highest, lowest))
	checkBytes(t, []api.Rel{rela(8, 6, 0, 100), rela(16, 6, 0, 36), rela(24, 7, 0, -4), rela(32, 7, 0, -4), rela(40, 6, 0, 0)}, true,
		listOf(5, 0, 2, 9, 6, 8, 100, 8, -64, 2, 9, 7, 8, -40, 8, 0, 1, 9, 6, 8, 4))
	checkBytes(t, []api.Rel{rela(0, 6, 0, highest), rela(0, 6, 0, lowest), rela(0, 7, 0, highest), rela(0, 7, 0, -1), rela(0, 7, 0, highest)}, true,
		listOf(5, 0, 2, 9, 6, 0, highest, 0, 1, 3, 9, 7, 0, -1, 0, lowest, 0, lowest))
}

// Rule 5: what is handed in stays as it is, what is answered is new, and what lies behind a length is no part of it.
func TestMemory(t *testing.T) {
	numbers, want := full()
	b := listOf(numbers...)
	whole := append(slices.Clone(b), 1, 2, 3)
	kept := slices.Clone(whole)
	got, e := aps.Decode(whole[:len(b)], true)
	if e != api.OK || !slices.Equal(got, want) || !bytes.Equal(whole, kept) {
		t.Fatal(got, e, whole)
	}
	clear(whole)
	if !slices.Equal(got, want) {
		t.Error(got)
	}
	if l, e := aps.Decode([]byte("APS2")[:3], true); e != api.ErrAps || len(l) != 0 {
		t.Error(l, e)
	}
	l := append(slices.Clone(want), rel(1, 2, 3)) // behind the length
	keptRels := slices.Clone(l)
	first, e := aps.Encode(l[:len(want)], true)
	if e != api.OK || !slices.Equal(l, keptRels) {
		t.Fatal(first, e, l)
	}
	clear(l)
	again, _ := aps.Encode(want, true)
	if !bytes.Equal(first, again) {
		t.Error(first, again)
	}
	clear(first)
	checkRels(t, again, true, want...)
}
