package maker_test

import (
	"fmt"
	"math"
	"slices"
	"strings"
	"testing"

	"messuage/api"
	"messuage/maker"
	"messuage/rows"
)

// row is a row of numbers, and what is made of them here.
type row struct{ *rows.Row }

// plain: is a text one, by layer 2's words?
func plain(s string) bool {
	for i := range len(s) {
		if s[i] < 33 || s[i] > 126 {
			return false
		}
	}
	return len(s) <= 64
}

// model: can a library be made of it, by the chapter's words?
func model(s api.Spec) bool {
	if s.Machine != 62 && s.Machine != 183 || !plain(s.Soname) || !plain(s.Runpath) || len(s.Needed) > 16 {
		return false
	}
	for _, text := range s.Needed {
		if text == "" || !plain(text) {
			return false
		}
	}
	if len(s.Data) > 4096 || s.Zeros < 0 || s.Zeros > 4096 || s.Relro < 0 || s.Relro > len(s.Data)/256 {
		return false
	}
	if min(s.Init, s.Fini) < 0 || max(s.Init, s.Fini) > 8 || len(s.Syms) >= 256 {
		return false
	}
	type version struct {
		name string
		own  bool
	}
	versions := map[version]int{}
	for _, x := range s.Syms {
		if !modelSymbol(s, x) {
			return false
		}
		if x.Ver != "" {
			versions[version{x.Ver, x.Defined}]++
		}
	}
	return len(versions) <= 31 && modelMoves(s)
}

// modelSymbol: may a symbol be?
func modelSymbol(s api.Spec, x api.Sym) bool {
	if x.Name == "" || !plain(x.Name) || !plain(x.Ver) || !slices.Contains([]int{0, 1, 2}, x.Bind) {
		return false
	}
	if x.Defined {
		return x.Value < uint64(len(s.Data)+s.Zeros)
	}
	return x.Value == 0 && !x.Hidden && x.Bind != 0 && (x.Ver == "" || len(s.Needed) != 0)
}

// modelMoves: may the relocations be? The bytes of each are laid down one by one.
func modelMoves(s api.Spec) bool {
	if len(s.Rels)+len(s.Relr) > 512 {
		return false
	}
	room := make([]int, len(s.Data)+s.Zeros)
	fill := func(at uint64) {
		for i := range uint64(8) {
			if at+i >= uint64(len(room)) {
				room = append(room, 2)
				return
			}
			room[at+i]++
		}
	}
	for _, r := range s.Rels {
		if !slices.Contains(types(s.Machine), r.Type) || int64(r.Sym) > int64(len(s.Syms)) || r.Has != s.Rela || !r.Has && r.Add != 0 {
			return false
		}
		fill(r.At)
	}
	for i, at := range s.Relr {
		if at%8 != 0 || i > 0 && at <= s.Relr[i-1] {
			return false
		}
		fill(at)
	}
	return len(room) == 0 || slices.Max(room) <= 1
}

// number: any number, those at edges more often.
func (r row) number(most int) int {
	edge := []int{0, 0, most, most, 1, most - 1, 2, 255, 256, 257}
	if r.Below(3) == 0 {
		return max(0, min(edge[r.Below(len(edge))], most))
	}
	return r.Below(most + 1)
}

// text: any plain text.
func (r row) text() string {
	switch r.Below(6) {
	case 0:
		return strings.Repeat(r.Text("a", "~", "!"), 1+r.Below(64))
	case 1:
		return names(40, 2+r.Below(63))[r.Below(40)]
	}
	return r.Text("a", "ba", "libc.so", "f", "g", "V1", "V2", "/lib:/x")
}

// maybe: now and then an empty text instead.
func (r row) maybe(s string) string {
	if r.Below(3) == 0 {
		return ""
	}
	return s
}

// yes: so or so.
func (r row) yes() bool { return r.Below(2) == 0 }

// right: any Spec of which a library can be made.
func (r row) right() api.Spec {
	s := api.Spec{
		Machine: machines()[r.Below(2)], Soname: r.maybe(r.text()), Runpath: r.maybe(r.text()), Symbolic: r.yes(), Global: r.yes(), Nodelete: r.yes(),
		Gnu: r.yes(), Packed: r.yes(), Rela: r.yes(), Init: r.number(8), Fini: r.number(8), Data: data(r.number(1 + r.Below(4096))), Zeros: r.number(1 + r.Below(4096)),
	}
	s.Relro = r.number(len(s.Data) / 256)
	for range r.Below(1 + r.number(16)) {
		s.Needed = append(s.Needed, r.text())
	}
	many := r.Below(20)
	if r.Below(20) == 0 {
		many = r.number(255)
	}
	for range many {
		s.Syms = append(s.Syms, r.symbol(s))
	}
	r.moves(&s)
	return s
}

// symbol: any symbol that may be in such a library.
func (r row) symbol(s api.Spec) api.Sym {
	x := api.Sym{Name: r.text(), Size: r.Next() >> r.Below(64), Bind: 1 + r.Below(2)}
	if size := int(dataSize(s)); size > 0 && r.yes() {
		x.Defined, x.Value, x.Hidden, x.Bind = true, uint64(r.number(size-1)), r.yes(), r.Below(3)
	}
	if x.Defined || len(s.Needed) > 0 {
		x.Ver = r.maybe(r.maybe(r.Text("a", "ba", "f", "V1", "V2", "V3", "V4", "libc.so")))
	}
	return x
}

// moves: lays relocations into a Spec whose data there are.
func (r row) moves(s *api.Spec) {
	size := int(dataSize(*s))
	most := []int{0, 1, 6, 40, 512}[r.Below(5)]
	gap := []int{1, 9, 40, 600}[r.Below(4)]
	for at := r.Below(20); at+8 <= size && len(s.Rels)+len(s.Relr) < most; at += 8 + r.Below(gap) {
		if even := (at + 7) / 8 * 8; r.yes() && even+8 <= size {
			s.Relr = append(s.Relr, uint64(even))
			at = even
			continue
		}
		x := api.Rel{At: uint64(at), Type: types(s.Machine)[r.Below(4)], Sym: uint32(r.number(len(s.Syms))), Has: s.Rela}
		if s.Rela {
			x.Add = int64(r.Next()) >> r.Below(64)
		}
		s.Rels = append(s.Rels, x)
	}
	for i := range s.Rels {
		j := r.Below(i + 1)
		s.Rels[i], s.Rels[j] = s.Rels[j], s.Rels[i]
	}
}

// anyText: any text, seldom a plain one.
func (r row) anyText() string {
	return r.Text("", "a", " ", "\x7f", "\x80", "a\x00", strings.Repeat("a", 64), strings.Repeat("a", 65))
}

// anyNumber: any number near an edge.
func (r row) anyNumber(size int) int {
	edge := []int{0, 8, 256, size, len(names(31, 3)), 4096, math.MaxInt, math.MinInt}
	return edge[r.Below(len(edge))] + r.Below(19) - 9
}

// spoil: the Spec with something turned that may matter.
func (r row) spoil(s *api.Spec) {
	size := int(dataSize(*s))
	switch r.Below(9) {
	case 0:
		s.Machine = []uint16{0, api.Intel, api.Arm, api.Intel + 1, math.MaxUint16}[r.Below(5)]
	case 1:
		*[]*string{&s.Soname, &s.Runpath}[r.Below(2)] = r.anyText()
	case 2:
		if len(s.Needed) > 0 && r.yes() {
			s.Needed[r.Below(len(s.Needed))] = r.anyText()
		} else {
			s.Needed = slices.Repeat(append(s.Needed, "l"), r.Below(4))
		}
	case 3:
		*[]*int{&s.Init, &s.Fini, &s.Relro, &s.Zeros}[r.Below(4)] = r.anyNumber(size)
	case 4:
		s.Data = data(max(0, min(r.anyNumber(len(s.Data)), 5000)))
	case 5:
		s.Rela = !s.Rela
	case 6:
		r.spoilSymbol(s)
	case 7:
		if len(s.Relr) > 0 {
			i := r.Below(len(s.Relr))
			s.Relr[i] = []uint64{s.Relr[i] + 8, s.Relr[i] - 8, s.Relr[i] + 4, 0, uint64(r.anyNumber(size)), uint64(size-8) &^ 7}[r.Below(6)]
		}
	case 8:
		r.spoilMove(s)
	}
}

// spoilSymbol: likewise, of a symbol.
func (r row) spoilSymbol(s *api.Spec) {
	if len(s.Syms) == 0 {
		return
	}
	x := &s.Syms[r.Below(len(s.Syms))]
	switch r.Below(9) {
	case 0:
		x.Name = r.anyText()
	case 1:
		x.Ver = r.anyText()
	case 2:
		x.Hidden = !x.Hidden
	case 3:
		x.Bind = r.Below(5) - 1
	case 4:
		x.Defined = !x.Defined
	case 5:
		x.Value = uint64(r.anyNumber(int(dataSize(*s))))
	case 6:
		s.Syms = slices.Repeat(s.Syms, 1+r.Below(300/len(s.Syms)))
	case 7: // as many versions as may be, or some more
		s.Syms = append(s.Syms, versioned(r.Below(34), 0)...)
	case 8:
		own := r.Below(33)
		s.Syms = append(s.Syms, versioned(own, max(0, 29+r.Below(5)-own))...)
	}
}

// spoilMove: likewise, of a relocation.
func (r row) spoilMove(s *api.Spec) {
	if len(s.Rels) == 0 {
		return
	}
	x := &s.Rels[r.Below(len(s.Rels))]
	switch r.Below(6) {
	case 0:
		x.At = []uint64{x.At + 1, x.At - 1, x.At + 8, x.At - 8, dataSize(*s) - 8, dataSize(*s) - 7, r.Next(), huge - uint64(r.Below(10))}[r.Below(8)]
	case 1:
		x.Type = []uint32{0, 1, 6, 7, 8, 9, 257, 1025, 1027, 1028, uint32(r.Next())}[r.Below(11)]
	case 2:
		x.Sym = uint32(len(s.Syms) + r.Below(4) - 1)
	case 3:
		x.Has = !x.Has
	case 4:
		x.Add = int64(r.Below(3))
	case 5:
		s.Rels = append(s.Rels, *x)
	}
}

// anything: any Spec, all of whose numbers and texts may be any.
func (r row) anything() api.Spec {
	s := r.right()
	for range r.Below(12) {
		r.spoil(&s)
	}
	if r.Below(4) == 0 {
		for range r.Below(600) {
			s.Rels = append(s.Rels, api.Rel{At: uint64(r.anyNumber(int(dataSize(s)))), Type: uint32(r.Below(9)), Sym: uint32(r.Below(4)), Add: int64(r.Next()), Has: s.Rela})
		}
	}
	return s
}

// short: a Spec as a text, without its data's bytes.
func short(s api.Spec) string {
	size := len(s.Data)
	s.Data = nil
	return fmt.Sprintf("%d bytes and %+v", size, s)
}

// P17.1, P17.2: any Specs, right ones and spoilt ones, held against the model; of all that have room what is made is read back.
func TestModel(t *testing.T) {
	rightOnes, madeOnes, wrongOnes, full := 0, 0, 0, 0
	for seed := range uint64(20000) {
		r := row{rows.New(seed)}
		s := r.right()
		if !model(s) {
			t.Fatalf("row %d: the model says that no library can be made of %s", seed, short(s))
		}
		for range r.Below(3) {
			r.spoil(&s)
		}
		want := model(s)
		if maker.Right(s) != want {
			t.Fatalf("row %d: %v of %s", seed, maker.Right(s), short(s))
		}
		switch {
		case !want:
			wrong(t, "a spoilt one", s)
			wrongOnes++
		case maker.DataAt(s) > 0:
			says(t, "a right one", s)
			madeOnes++
			if reckoned(s) > sureBytes {
				full++
			}
		case reckoned(s) <= sureBytes:
			t.Fatalf("row %d: no room for %d bytes: %s", seed, reckoned(s), short(s))
		default:
			noRoom(t, "a great one", s)
			rightOnes++
		}
	}
	if madeOnes < 5000 || wrongOnes < 4000 || rightOnes < 10 || full < 50 {
		t.Error(madeOnes, wrongOnes, rightOnes, full)
	}
}
