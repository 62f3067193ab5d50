package rels_test

import (
	"bytes"
	"debug/elf"
	"encoding/binary"
	"math"
	"slices"
	"testing"

	"messuage/api"
	"messuage/rels"
	"messuage/rows"
)

// number: any number, an edge often.
func number(r *rows.Row) uint64 {
	edges := []uint64{0, 1, 7, 8, 255, math.MaxInt32, math.MaxUint32, 1 << 32, math.MaxInt64, 1 << 63, math.MaxUint64}
	if r.Below(2) == 0 {
		return edges[r.Below(len(edges))]
	}
	return r.Next() >> r.Below(64)
}

// length: how many relocations; sometimes around as many as may be.
func length(r *rows.Row) int {
	if r.Below(40) == 0 {
		return most - 1 + r.Below(3)
	}
	return r.Below(9)
}

// anyList: relocations of a list, or sometimes some that it can't say.
func anyList(r *rows.Row, rela bool) []api.Rel {
	var l []api.Rel
	for range length(r) {
		one := api.Rel{At: number(r), Type: uint32(number(r)), Sym: uint32(number(r)), Has: rela}
		if rela {
			one.Add = int64(number(r))
		}
		l = append(l, one)
	}
	if len(l) > 0 && r.Below(4) == 0 {
		one := &l[r.Below(len(l))]
		one.Has = one.Has != (r.Below(2) == 0)
		one.Add = int64(number(r))
	}
	return l
}

// wanted: the bytes of relocations, as Go's own package of ELF files lays them down; nil and false: there are none.
func wanted(l []api.Rel, rela bool) ([]byte, bool) {
	if len(l) > most {
		return nil, false
	}
	var out bytes.Buffer
	for _, r := range l {
		info := elf.R_INFO(r.Sym, r.Type)
		switch {
		case r.Has && rela:
			binary.Write(&out, binary.LittleEndian, elf.Rela64{Off: r.At, Info: info, Addend: r.Add})
		case !r.Has && !rela && r.Add == 0:
			binary.Write(&out, binary.LittleEndian, elf.Rel64{Off: r.At, Info: info})
		default:
			return nil, false
		}
	}
	return out.Bytes(), true
}

// told: the relocations of bytes, as that package takes them up; nil and false: they are none.
func told(t *testing.T, b []byte, rela bool) ([]api.Rel, bool) {
	t.Helper()
	var l []api.Rel
	for in := bytes.NewReader(b); in.Len() > 0; {
		if len(l) == most || in.Len() < size(rela) {
			return nil, false
		}
		var one elf.Rela64
		var short elf.Rel64
		var err error
		if rela {
			err = binary.Read(in, binary.LittleEndian, &one)
		} else {
			err = binary.Read(in, binary.LittleEndian, &short)
			one = elf.Rela64{Off: short.Off, Info: short.Info}
		}
		if err != nil {
			t.Fatal(err)
		}
		l = append(l, api.Rel{At: one.Off, Type: elf.R_TYPE64(one.Info), Sym: elf.R_SYM64(one.Info), Add: one.Addend, Has: rela})
	}
	return l, true
}

// errOf: the error of something that is there, or isn't.
func errOf(ok bool) api.Errno {
	if ok {
		return api.OK
	}
	return api.ErrRels
}

// P12.2, P12.3: any lists against the other package, and there and back.
func TestEncodeModel(t *testing.T) {
	met := map[api.Errno]int{}
	for seed := range uint64(20000) {
		r := rows.New(seed)
		rela := r.Below(2) == 0
		l := anyList(r, rela)
		want, ok := wanted(l, rela)
		b, e := rels.Encode(l, rela)
		if e != errOf(ok) || !bytes.Equal(b, want) {
			t.Fatalf("row %d: Encode(%+v, %v): %v, %v, not %v", seed, l, rela, b, e, want)
		}
		if e == api.OK {
			back, e := rels.Decode(b, rela)
			if e != api.OK || !slices.Equal(back, l) || !rels.Same(back, l) {
				t.Fatalf("row %d: %+v is decoded as %+v, %v", seed, l, back, e)
			}
		}
		met[e]++
	}
	if met[api.OK] < 5000 || met[api.ErrRels] < 1000 {
		t.Error(met)
	}
}

// P12.1, P12.3, P1: any bytes against the other package, and there and back.
func TestDecodeModel(t *testing.T) {
	met := map[api.Errno]int{}
	for seed := range uint64(20000) {
		r := rows.New(seed)
		rela := r.Below(2) == 0
		b := make([]byte, length(r)*size(rela))
		if r.Below(4) == 0 {
			b = make([]byte, r.Below(100))
		}
		for i := range b {
			b[i] = byte(r.Next() >> 20)
		}
		want, ok := told(t, b, rela)
		l, e := rels.Decode(b, rela)
		if e != errOf(ok) || !slices.Equal(l, want) {
			t.Fatalf("row %d: Decode(%v, %v): %+v, %v, not %+v", seed, b, rela, l, e, want)
		}
		if e == api.OK {
			back, e := rels.Encode(l, rela)
			if e != api.OK || !bytes.Equal(back, b) {
				t.Fatalf("row %d: %v is encoded as %v, %v", seed, b, back, e)
			}
		}
		met[e]++
	}
	if met[api.OK] < 5000 || met[api.ErrRels] < 1000 {
		t.Error(met)
	}
}
