package rels_test

import (
	"bytes"
	"math"
	"slices"
	"testing"

	"messuage/api"
	"messuage/rels"
)

const most = 512 // relocations of a list

// size: how many bytes the chapter gives a relocation.
func size(rela bool) int {
	if rela {
		return 24
	}
	return 16
}

// list: so many relocations, no two alike.
func list(many int, rela bool) []api.Rel {
	var l []api.Rel
	for i := range many {
		r := api.Rel{At: 8 * uint64(i), Type: uint32(i % 7), Sym: uint32(i), Has: rela}
		if rela {
			r.Add = int64(3 - i)
		}
		l = append(l, r)
	}
	return l
}

// checkBoth holds relocations and their bytes against each other, both ways.
func checkBoth(t *testing.T, l []api.Rel, rela bool, b []byte) {
	t.Helper()
	if got, e := rels.Encode(l, rela); e != api.OK || !bytes.Equal(got, b) {
		t.Errorf("Encode(%+v, %v): %v, %v", l, rela, got, e)
	}
	if got, e := rels.Decode(b, rela); e != api.OK || !slices.Equal(got, l) {
		t.Errorf("Decode(%v, %v): %+v, %v", b, rela, got, e)
	}
}

// checkNoBytes: these relocations have none.
func checkNoBytes(t *testing.T, l []api.Rel, rela bool) {
	t.Helper()
	if b, e := rels.Encode(l, rela); e != api.ErrRels || len(b) != 0 {
		t.Errorf("Encode of %d relocations, %v: %v, %v", len(l), rela, b, e)
	}
}

// checkNoRels: these bytes are none.
func checkNoRels(t *testing.T, b []byte, rela bool) {
	t.Helper()
	if l, e := rels.Decode(b, rela); e != api.ErrRels || len(l) != 0 {
		t.Errorf("Decode of %d bytes, %v: %v, %v", len(b), rela, l, e)
	}
}

// P12.1, P12.2: the chapter's own examples.
func TestExamples(t *testing.T) {
	checkNoRels(t, make([]byte, 15), false)
	checkNoRels(t, make([]byte, 15), true)
	b := []byte{8, 0, 0, 0, 0, 0, 0, 0, 8, 0, 0, 0, 0, 0, 0, 0, 16, 0, 0, 0, 0, 0, 0, 0}
	checkBoth(t, []api.Rel{{At: 8, Type: 8, Add: 16, Has: true}}, true, b)
}

// P12.1, P12.2, P12.3: each field by itself, each of its bytes in its place.
func TestFields(t *testing.T) {
	const nine = 0xf9
	full := func(from, to int) []byte {
		b := make([]byte, 24)
		for i := from; i < to; i++ {
			b[i] = 0xff
		}
		return b
	}
	one := func(at int) []byte {
		b := make([]byte, 24)
		b[at] = nine
		return b
	}
	cases := []struct {
		r api.Rel
		b []byte
	}{
		{api.Rel{}, make([]byte, 24)},
		{api.Rel{At: math.MaxUint64}, full(0, 8)},
		{api.Rel{Type: math.MaxUint32}, full(8, 12)},
		{api.Rel{Sym: math.MaxUint32}, full(12, 16)},
		{api.Rel{At: math.MaxUint64, Type: math.MaxUint32, Sym: math.MaxUint32}, full(0, 16)},
		{api.Rel{At: 1 << 63}, append(append(make([]byte, 7), 0x80), make([]byte, 16)...)},
		{api.Rel{Add: -1}, full(16, 24)},
		{api.Rel{At: math.MaxUint64, Type: math.MaxUint32, Sym: math.MaxUint32, Add: -1}, full(0, 24)},
		{api.Rel{Add: math.MinInt64}, append(make([]byte, 23), 0x80)},
		{api.Rel{Add: math.MaxInt64}, append(full(16, 23)[:23], 0x7f)},
		{api.Rel{Add: -2}, append(append(make([]byte, 16), 0xfe), full(17, 24)[17:]...)},
		{api.Rel{Add: 1}, append(append(make([]byte, 16), 1), make([]byte, 7)...)},
	}
	for _, c := range cases {
		r := c.r
		if r.Add == 0 {
			checkBoth(t, []api.Rel{r}, false, c.b[:16])
		}
		r.Has = true
		checkBoth(t, []api.Rel{r}, true, c.b)
	}
	for i := range 8 {
		checkBoth(t, []api.Rel{{At: nine << (8 * i), Has: true}}, true, one(i))
		checkBoth(t, []api.Rel{{Add: int64(uint64(nine) << (8 * i)), Has: true}}, true, one(16+i))
	}
	for i := range 4 {
		checkBoth(t, []api.Rel{{Type: nine << (8 * i)}}, false, one(8 + i)[:16])
		checkBoth(t, []api.Rel{{Sym: nine << (8 * i)}}, false, one(12 + i)[:16])
	}
}

// P12.1: bytes that are whole relocations, and all others.
func TestWhole(t *testing.T) {
	whole := make([]byte, 250)
	for i := range whole {
		whole[i] = byte(7 * i)
	}
	for _, rela := range []bool{false, true} {
		for many := range len(whole) + 1 {
			b := whole[:many]
			if many%size(rela) != 0 {
				checkNoRels(t, b, rela)
				continue
			}
			l, e := rels.Decode(b, rela)
			if e != api.OK || len(l) != many/size(rela) {
				t.Fatalf("Decode of %d bytes, %v: %v, %v", many, rela, l, e)
			}
			checkBoth(t, l, rela, b)
		}
		checkBoth(t, nil, rela, nil)
		checkBoth(t, []api.Rel{}, rela, []byte{})
	}
	// 48 bytes are whole relocations of either kind.
	if l, e := rels.Decode(whole[:48], false); e != api.OK || len(l) != 3 {
		t.Error(l, e)
	}
	if l, e := rels.Decode(whole[:48], true); e != api.OK || len(l) != 2 {
		t.Error(l, e)
	}
}

// P12.1, P12.2: as many as may be, and more.
func TestMany(t *testing.T) {
	for _, rela := range []bool{false, true} {
		l := list(most, rela)
		b, e := rels.Encode(l, rela)
		if e != api.OK || len(b) != most*size(rela) {
			t.Fatal(len(b), e)
		}
		checkBoth(t, l, rela, b)
		checkBoth(t, l[1:], rela, b[size(rela):])
		for _, more := range []int{1, 2, most, 100000} {
			checkNoBytes(t, list(most+more, rela), rela)
			checkNoRels(t, make([]byte, (most+more)*size(rela)), rela)
		}
		checkNoRels(t, make([]byte, most*size(rela)+1), rela)
		checkNoRels(t, make([]byte, most*size(rela)-1), rela)
	}
	// What is too many of the one kind is none too many of the other.
	if l, e := rels.Decode(make([]byte, 768*16), true); e != api.OK || len(l) != most {
		t.Error(len(l), e)
	}
	checkNoRels(t, make([]byte, 768*16), false)
}

// P12.2: relocations that a list can't say, wherever they stand.
func TestWrong(t *testing.T) {
	for _, where := range []int{0, 1, 4, 511} {
		for _, rela := range []bool{false, true} {
			l := list(most, rela)
			l[where].Has = !rela
			checkNoBytes(t, l, rela)
		}
		for _, add := range []int64{1, -1, 16, math.MaxInt64, math.MinInt64, 1 << 32} {
			l := list(most, false)
			l[where].Add = add
			checkNoBytes(t, l, false)
		}
	}
	for _, add := range []int64{0, 1} {
		checkNoBytes(t, []api.Rel{{At: 8, Add: add, Has: true}}, false)
		checkNoBytes(t, []api.Rel{{At: 8, Add: add}}, true)
	}
	checkNoBytes(t, []api.Rel{{At: 8, Add: 1}}, false)
	checkBoth(t, []api.Rel{{At: 8}}, false, append([]byte{8}, make([]byte, 15)...))
}

// checkSame holds two lists against each other, both ways.
func checkSame(t *testing.T, a, b []api.Rel, want bool) {
	t.Helper()
	if rels.Same(a, b) != want || rels.Same(b, a) != want {
		t.Errorf("Same(%+v, %+v): %v", a, b, !want)
	}
}

// P12.2
func TestSame(t *testing.T) {
	checkSame(t, nil, nil, true)
	checkSame(t, nil, []api.Rel{}, true)
	checkSame(t, nil, make([]api.Rel, 1), false)
	for _, many := range []int{1, 2, 5, most, most + 1, 2000} { // lists of any length, told or not
		a := list(many, true)
		checkSame(t, a, a, true)
		checkSame(t, a, slices.Clone(a), true)
		checkSame(t, a, a[:many-1], false)
		checkSame(t, a, a[1:], false)
		checkSame(t, a, append(slices.Clone(a), api.Rel{}), false)
		for _, where := range []int{0, many / 2, many - 1} {
			for _, other := range []func(*api.Rel){
				func(r *api.Rel) { r.At++ },
				func(r *api.Rel) { r.At ^= 1 << 63 },
				func(r *api.Rel) { r.Type++ },
				func(r *api.Rel) { r.Type ^= 1 << 31 },
				func(r *api.Rel) { r.Sym++ },
				func(r *api.Rel) { r.Sym ^= 1 << 31 },
				func(r *api.Rel) { r.Add++ },
				func(r *api.Rel) { r.Add ^= math.MinInt64 },
				func(r *api.Rel) { r.Add = -r.Add - 1 },
				func(r *api.Rel) { r.Has = !r.Has },
				func(r *api.Rel) { r.Type, r.Sym = r.Sym+1, r.Type },
			} {
				b := slices.Clone(a)
				other(&b[where])
				checkSame(t, a, b, false)
			}
		}
		if many > 1 {
			b := slices.Clone(a)
			b[0], b[1] = b[1], b[0]
			checkSame(t, a, b, false)
			b = slices.Clone(a)
			slices.Reverse(b)
			checkSame(t, a, b, false)
		}
	}
	// What has nothing added isn't what has 0 added.
	checkSame(t, []api.Rel{{At: 8}}, []api.Rel{{At: 8, Has: true}}, false)
}

// Rule 5: what is handed in stays as it is, what is answered is new, and what lies behind a length is no part of it.
func TestMemory(t *testing.T) {
	for _, rela := range []bool{false, true} {
		l := list(4, rela)
		l[3].Has = !rela // behind the length
		kept := slices.Clone(l)
		b, e := rels.Encode(l[:3], rela)
		if e != api.OK || len(b) != 3*size(rela) {
			t.Fatal(b, e)
		}
		whole := append(slices.Clone(b), 1, 2, 3)
		got, e := rels.Decode(whole[:len(b)], rela)
		if e != api.OK || !slices.Equal(got, l[:3]) {
			t.Error(got, e)
		}
		got[0].At = 99
		_ = append(got, api.Rel{})
		if !slices.Equal(l, kept) || !bytes.Equal(whole[:len(b)], b) || !bytes.Equal(whole[len(b):], []byte{1, 2, 3}) {
			t.Error("what was handed in is another")
		}
		whole[0], b[0] = 98, 97
		l[1].At = 96
		if got[1] != kept[1] || got[0].At != 99 {
			t.Error(got)
		}
		again, _ := rels.Encode(kept[:3], rela)
		if again[0] != 0 || again[size(rela)] != 8 {
			t.Error(again)
		}
		if !rels.Same(kept[:2], list(2, rela)) {
			t.Error("what lies behind a length is held against nothing")
		}
	}
}
