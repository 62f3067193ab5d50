package relr_test

import (
	"bytes"
	"encoding/binary"
	"math/big"
	"math/bits"
	"slices"
	"testing"

	"messuage/api"
	"messuage/relr"
	"messuage/rows"
)

// plus: a number and so many more, however great it becomes.
func plus(n *big.Int, more uint64) *big.Int {
	return new(big.Int).Add(n, new(big.Int).SetUint64(more))
}

// wide: a number as one that may become greater than 2^64 - 1.
func wide(n uint64) *big.Int { return new(big.Int).SetUint64(n) }

// told: the places that bytes tell, by the chapter's words; nil and false: they tell none.
func told(b []byte) ([]uint64, bool) {
	if len(b)%8 != 0 || len(b) > 8*most {
		return nil, false
	}
	var l []uint64
	var from *big.Int
	for ; len(b) > 0; b = b[8:] {
		word := binary.LittleEndian.Uint64(b)
		if word%2 == 0 {
			l = append(l, word)
			from = plus(wide(word), 8)
		} else if from == nil {
			return nil, false
		} else {
			for i := 1; i <= 63; i++ {
				if place := plus(from, 8*uint64(i-1)); word>>i%2 == 1 {
					l = append(l, place.Uint64())
				}
			}
			from = plus(from, 504)
		}
		if !from.IsUint64() {
			return nil, false
		}
	}
	return l, len(l) <= most
}

// wanted: the words of places, by the chapter's words; nil and false: there are none.
func wanted(l []uint64) ([]uint64, bool) {
	last := new(big.Int).Sub(new(big.Int).Lsh(big.NewInt(1), 64), big.NewInt(513))
	for i, at := range l {
		if at%2 == 1 || wide(at).Cmp(last) > 0 || i > 0 && wide(at).Cmp(plus(wide(l[i-1]), 8)) < 0 {
			return nil, false
		}
	}
	var out []uint64
	var from *big.Int
	for i := 0; i < len(l); {
		var numbers []int
		for from != nil && i < len(l) {
			number := 0 // which of the 63 it is
			for k := range 63 {
				if plus(from, 8*uint64(k)).Cmp(wide(l[i])) == 0 {
					number = k + 1
				}
			}
			if number == 0 {
				break
			}
			numbers = append(numbers, number)
			i++
		}
		if len(numbers) > 0 {
			out = append(out, row(numbers...))
			from = plus(from, 504)
		} else {
			out = append(out, l[i])
			from = plus(wide(l[i]), 8)
			i++
		}
	}
	return out, len(l) <= most
}

// errOf: the error of something that is there, or isn't.
func errOf(ok bool) api.Errno {
	if ok {
		return api.OK
	}
	return api.ErrRelr
}

// place: any place, one near the end of all places often.
func place(r *rows.Row) uint64 {
	switch r.Below(8) {
	case 0:
		return huge - uint64(r.Below(2100))
	case 1:
		return huge - uint64(r.Below(40))
	case 2:
		return lastForRow - uint64(r.Below(2)*504) + uint64(r.Below(5)) - 2
	case 3:
		return r.Next()
	}
	return uint64(r.Below(4096))
}

// anyWords: words that tell places, or sometimes none.
func anyWords(r *rows.Row) []uint64 {
	many := r.Below(14)
	if r.Below(40) == 0 {
		many = most - 1 + r.Below(3)
	}
	l := make([]uint64, 0, many)
	for i := range many {
		if i > 0 && r.Below(2) == 0 || r.Below(40) == 0 {
			l = append(l, 1|[]uint64{none, r.Next() & r.Next() & r.Next(), full}[r.Below(3)])
		} else {
			l = append(l, place(r)&^1)
		}
	}
	return l
}

// anyPlaces: places that rise, or sometimes ones that can't be told.
func anyPlaces(r *rows.Row) []uint64 {
	many := r.Below(100)
	if r.Below(20) == 0 {
		many = most - 1 + r.Below(3)
	}
	at := place(r) &^ 1
	if r.Below(4) != 0 {
		at = min(at, huge-513)
	}
	if r.Below(5) == 0 { // up to the last place that can be told, or near it
		at = huge - 513 - uint64(r.Below(2))*2 - 8*uint64(many)
	}
	steps := []uint64{8, 8, 8, 16, uint64(8 + 2*r.Below(8)), 504, 512, uint64(8 * r.Below(80)), uint64(2 * r.Below(600))}
	steps = steps[:1+r.Below(len(steps))]
	var l []uint64
	for range many {
		l = append(l, at)
		next := at + max(8, steps[r.Below(len(steps))])
		if next < at || next > huge-513 && r.Below(10) != 0 {
			break
		}
		at = next
	}
	if len(l) > 0 && r.Below(6) == 0 {
		one := &l[r.Below(len(l))]
		*one = []uint64{*one + 1, *one - 2, *one + 2, place(r), *one - 8}[r.Below(5)]
	}
	return l
}

// P13.1: any words against the model.
func TestDecodeModel(t *testing.T) {
	met := map[api.Errno]int{}
	for seed := range uint64(20000) {
		r := rows.New(seed)
		b := words(anyWords(r)...)
		if len(b) > 0 && r.Below(20) == 0 {
			b = b[:r.Below(len(b))]
		}
		want, ok := told(b)
		if !ok {
			want = nil
		}
		l, e := relr.Decode(b)
		if e != errOf(ok) || !slices.Equal(l, want) {
			t.Fatalf("row %d: Decode(%x): %#x, %v, not %#x", seed, b, l, e, want)
		}
		met[e]++
	}
	if met[api.OK] < 4000 || met[api.ErrRelr] < 4000 {
		t.Error(met)
	}
}

// P13.2, P13.3: any places against the model, and there and back.
func TestEncodeModel(t *testing.T) {
	met := map[api.Errno]int{}
	rowsMet := 0
	for seed := range uint64(4000) {
		r := rows.New(seed)
		l := anyPlaces(r)
		want, ok := wanted(l)
		if !ok {
			want = nil
		}
		b, e := relr.Encode(l)
		if e != errOf(ok) || !bytes.Equal(b, words(want...)) {
			t.Fatalf("row %d: Encode(%#x): %x, %v, not %#x", seed, l, b, e, want)
		}
		met[e]++
		if e != api.OK {
			continue
		}
		back, e := relr.Decode(b)
		if e != api.OK || !slices.Equal(back, l) || len(b) > 8*len(l) {
			t.Fatalf("row %d: %#x is %x, then %#x, %v", seed, l, b, back, e)
		}
		for _, word := range want {
			if word%2 == 1 && bits.OnesCount64(word) > 2 {
				rowsMet++
			}
		}
	}
	if met[api.OK] < 1000 || met[api.ErrRelr] < 500 || rowsMet < 1000 {
		t.Error(met, rowsMet)
	}
}

// P1: of any bytes and any numbers each call ends, and says nothing beside an error.
func TestAnything(t *testing.T) {
	for seed := range uint64(20000) {
		r := rows.New(seed)
		b := make([]byte, r.Below(80))
		for i := range b {
			b[i] = byte(r.Next() >> 20)
		}
		l, e := relr.Decode(b)
		if e != api.OK && (e != api.ErrRelr || len(l) != 0) {
			t.Fatalf("row %d: %v, %v", seed, l, e)
		}
		var places []uint64
		for range r.Below(5) {
			places = append(places, r.Next()>>r.Below(64), place(r))
		}
		words, e := relr.Encode(places)
		if e != api.OK && (e != api.ErrRelr || len(words) != 0) {
			t.Fatalf("row %d: %v, %v", seed, words, e)
		}
	}
}
