package aps_test

import (
	"bytes"
	"math/big"
	"slices"
	"testing"

	"messuage/api"
	"messuage/aps"
	"messuage/rows"
)

// round: a number of any size as one of 64 bits, from 0 on.
func round(n *big.Int) uint64 {
	return new(big.Int).And(n, new(big.Int).SetUint64(1<<64-1)).Uint64()
}

// takeNumber: the number with its sign at which bytes begin, and the bytes behind it; false: there is none.
func takeNumber(b []byte) (*big.Int, []byte, bool) {
	n := new(big.Int)
	for i := 0; i < 10 && i < len(b); i++ {
		group := int64(b[i] % 128)
		last := b[i] < 128
		if last && group >= 64 {
			group -= 128
		}
		n.Add(n, new(big.Int).Lsh(big.NewInt(group), uint(7*i)))
		if last {
			return n, b[i+1:], n.IsInt64()
		}
	}
	return nil, nil, false
}

// gone is how the model gives up.
type gone struct{}

// model reads a list by the chapter's words; its sums are of any size.
type model struct {
	b       []byte
	at, add *big.Int
}

// next: the next number.
func (m *model) next() *big.Int {
	n, rest, ok := takeNumber(m.b)
	if !ok {
		panic(gone{})
	}
	m.b = rest
	return n
}

// between: the next number, which is from one to another.
func (m *model) between(from, to int64) int64 {
	n := m.next()
	if n.Cmp(big.NewInt(from)) < 0 || n.Cmp(big.NewInt(to)) > 0 {
		panic(gone{})
	}
	return n.Int64()
}

// group: the relocations of the next group.
func (m *model) group(left int, with bool) []api.Rel {
	many := m.between(1, int64(left))
	flags := m.between(0, 15)
	if flags >= 8 && !with {
		panic(gone{})
	}
	own := func(flag int64) bool { return flags/flag%2 == 1 }
	var step, info *big.Int
	if own(2) {
		step = m.next()
	}
	if own(1) {
		info = m.next()
	}
	if own(8) && own(4) {
		m.add = new(big.Int).Add(m.add, m.next())
	}
	if !own(8) {
		m.add = new(big.Int)
	}
	var l []api.Rel
	for range many {
		if !own(2) {
			step = m.next()
		}
		if !own(1) {
			info = m.next()
		}
		if own(8) && !own(4) {
			m.add = new(big.Int).Add(m.add, m.next())
		}
		m.at = new(big.Int).Add(m.at, step)
		both := round(info)
		l = append(l, api.Rel{At: round(m.at), Type: uint32(both % (1 << 32)), Sym: uint32(both / (1 << 32)), Add: int64(round(m.add)), Has: with})
	}
	return l
}

// told: the relocations of bytes; false: they are none.
func told(b []byte, with bool) (l []api.Rel, ok bool) {
	defer func() {
		if why := recover(); why != nil {
			if _, is := why.(gone); !is {
				panic(why)
			}
			l, ok = nil, false
		}
	}()
	if len(b) < 4 || string(b[:4]) != "APS2" {
		return nil, false
	}
	m := &model{b: b[4:], add: new(big.Int)}
	many := int(m.between(0, most))
	m.at = m.next()
	for len(l) < many {
		l = append(l, m.group(many-len(l), with)...)
	}
	if len(m.b) != 0 {
		return nil, false
	}
	return l, true
}

// wanted: the numbers behind APS2 of relocations; false: there are none.
func wanted(l []api.Rel, with bool) ([]int64, bool) {
	numbers := []int64{int64(len(l)), 0}
	head := 0 // where the number of relocations of the group stands
	for i, r := range l {
		if r.Has != with || !with && r.Add != 0 {
			return nil, false
		}
		ahead := api.Rel{}
		if i > 0 {
			ahead = l[i-1]
		}
		if i == 0 || r.Type != ahead.Type || r.Sym != ahead.Sym {
			head = len(numbers)
			flags := int64(1)
			if with {
				flags = 9
			}
			numbers = append(numbers, 0, flags, int64(r.Sym)<<32+int64(r.Type))
		}
		numbers[head]++
		numbers = append(numbers, int64(r.At)-int64(ahead.At))
		if with {
			numbers = append(numbers, r.Add-ahead.Add)
		}
	}
	return numbers, len(l) <= most
}

// errOf: the error of something that is there, or isn't.
func errOf(ok bool) api.Errno {
	if ok {
		return api.OK
	}
	return api.ErrAps
}

// anyNumber: any number, an edge often.
func anyNumber(r *rows.Row) int64 {
	edges := []int64{0, 1, -1, 8, -8, 63, 64, -64, -65, 1 << 31, 1 << 32, -1 << 32, highest, lowest}
	switch r.Below(3) {
	case 0:
		return edges[r.Below(len(edges))]
	case 1:
		return int64(r.Below(100))
	}
	return int64(r.Next()) >> r.Below(64)
}

// length: how many relocations; sometimes around as many as may be.
func length(r *rows.Row) int {
	if r.Below(40) == 0 {
		return most - 1 + r.Below(3)
	}
	return r.Below(12)
}

// anyList: the numbers of a list that is right, but that it may have too many relocations, or 8 without rela.
func anyList(r *rows.Row, with bool) []int64 {
	left := length(r)
	numbers := []int64{int64(left), anyNumber(r)}
	for left > 0 {
		many := 1 + r.Below(left)
		flags := r.Below(16)
		if !with && r.Below(30) != 0 {
			flags %= 8
		}
		numbers = append(numbers, int64(many), int64(flags))
		each := 0
		for _, own := range []bool{flags&2 != 0, flags&1 != 0, flags&12 == 12} {
			if own {
				numbers = append(numbers, anyNumber(r))
			}
		}
		for _, one := range []bool{flags&2 == 0, flags&1 == 0, flags&12 == 8} {
			if one {
				each++
			}
		}
		for range many * each {
			numbers = append(numbers, anyNumber(r))
		}
		left -= many
	}
	return numbers
}

// anyBytes: the bytes of a list, some numbers in more groups than they want; sometimes wrong somewhere.
func anyBytes(r *rows.Row, with bool) []byte {
	numbers := anyList(r, with)
	if r.Below(6) == 0 {
		numbers[r.Below(len(numbers))] = anyNumber(r)
	}
	b := []byte("APS2")
	for _, n := range numbers {
		groups := 1
		if r.Below(8) == 0 {
			groups += r.Below(10)
		}
		b = append(b, number(n, groups)...)
	}
	switch r.Below(16) {
	case 0:
		b = b[:r.Below(len(b))]
	case 1:
		b = append(b, byte(r.Below(256)))
	case 2:
		b[r.Below(len(b))] ^= 1 << r.Below(8)
	}
	return b
}

// P14.1: any lists, right and wrong, against the model.
func TestDecodeModel(t *testing.T) {
	met := map[api.Errno]int{}
	for seed := range uint64(20000) {
		r := rows.New(seed)
		with := r.Below(2) == 0
		b := anyBytes(r, with)
		want, ok := told(b, with)
		l, e := aps.Decode(b, with)
		if e != errOf(ok) || !slices.Equal(l, want) {
			t.Fatalf("row %d: Decode(%v, %v): %+v, %v, not %+v", seed, b, with, l, e, want)
		}
		met[e]++
		if e != api.OK {
			continue
		}
		// What was decoded can be encoded, and is the same then.
		again, e := aps.Encode(l, with)
		if e != api.OK {
			t.Fatalf("row %d: Encode(%+v): %v", seed, l, e)
		}
		if back, e := aps.Decode(again, with); e != api.OK || !slices.Equal(back, l) {
			t.Fatalf("row %d: %+v is decoded as %+v, %v", seed, l, back, e)
		}
	}
	if met[api.OK] < 5000 || met[api.ErrAps] < 2000 {
		t.Error(met)
	}
}

// anyRels: relocations of a list, rows of alike ones often, or sometimes some that it can't say.
func anyRels(r *rows.Row, with bool) []api.Rel {
	var l []api.Rel
	one := api.Rel{Has: with}
	for range length(r) {
		one.At = uint64(anyNumber(r))
		if r.Below(3) == 0 {
			one.Type = uint32(anyNumber(r))
		}
		if r.Below(3) == 0 {
			one.Sym = uint32(anyNumber(r))
		}
		if with && r.Below(4) != 0 {
			one.Add = anyNumber(r)
		}
		l = append(l, one)
	}
	if len(l) > 0 && r.Below(4) == 0 {
		wrong := &l[r.Below(len(l))]
		wrong.Has = wrong.Has != (r.Below(2) == 0)
		wrong.Add = anyNumber(r)
	}
	return l
}

// P14.2, P14.3: any relocations against the model, and there and back.
func TestEncodeModel(t *testing.T) {
	met := map[api.Errno]int{}
	for seed := range uint64(20000) {
		r := rows.New(seed)
		with := r.Below(2) == 0
		l := anyRels(r, with)
		numbers, ok := wanted(l, with)
		var want []byte
		if ok {
			want = listOf(numbers...)
		}
		b, e := aps.Encode(l, with)
		if e != errOf(ok) || !bytes.Equal(b, want) {
			t.Fatalf("row %d: Encode(%+v, %v): %v, %v, not %v", seed, l, with, b, e, want)
		}
		met[e]++
		if e != api.OK {
			continue
		}
		if back, e := aps.Decode(b, with); e != api.OK || !slices.Equal(back, l) {
			t.Fatalf("row %d: %+v is decoded as %+v, %v", seed, l, back, e)
		}
		if told, ok := told(b, with); !ok || !slices.Equal(told, l) {
			t.Fatalf("row %d: the model decodes %+v as %+v", seed, l, told)
		}
	}
	if met[api.OK] < 5000 || met[api.ErrAps] < 1000 {
		t.Error(met)
	}
}

// P1: of any bytes behind APS2 each call ends, with what the model says.
func TestAnything(t *testing.T) {
	met := map[api.Errno]int{}
	for seed := range uint64(50000) {
		r := rows.New(seed)
		with := r.Below(2) == 0
		b := []byte("APS2")
		for range r.Below(24) {
			if r.Below(4) == 0 {
				b = append(b, byte(r.Below(256)))
			} else {
				b = append(b, byte(r.Below(4)))
			}
		}
		want, ok := told(b, with)
		l, e := aps.Decode(b, with)
		if e != errOf(ok) || !slices.Equal(l, want) {
			t.Fatalf("row %d: Decode(%v, %v): %+v, %v, not %+v", seed, b, with, l, e, want)
		}
		met[e]++
	}
	if met[api.OK] < 500 || met[api.ErrAps] < 5000 {
		t.Error(met)
	}
}
