package maker_test

import (
	"math"
	"reflect"
	"slices"
	"strconv"
	"strings"
	"testing"

	"messuage/api"
	"messuage/image"
	"messuage/maker"
)

const (
	huge = math.MaxUint64

	mostPlaces = 512
	mostSyms   = 255
	spanEnd    = 64 * 256 // of a library's memory
	sureBytes  = 8192     // in the chapter's reckoning: so many always have room
)

// machines: those that there are.
func machines() []uint16 { return []uint16{api.Intel, api.Arm} }

// absolute: a type on a machine that is of that kind.
func absolute(machine uint16) uint32 { return map[uint16]uint32{api.Intel: 1, api.Arm: 257}[machine] }

// relative: the type on a machine that is of that kind.
func relative(machine uint16) uint32 { return map[uint16]uint32{api.Intel: 8, api.Arm: 1027}[machine] }

// types: those of a machine, of all kinds but None.
func types(machine uint16) []uint32 {
	return map[uint16][]uint32{api.Intel: {1, 6, 7, 8}, api.Arm: {257, 1025, 1026, 1027}}[machine]
}

// data: so many bytes, none of them 0.
func data(many int) []byte {
	b := make([]byte, many)
	for i := range b {
		b[i] = byte(i%251 + 1)
	}
	return b
}

// bare: what hardly anything is said of: data, and noughts behind.
func bare(machine uint16) api.Spec {
	return api.Spec{Machine: machine, Data: data(300), Zeros: 60}
}

// full: a library of all that one can be made of.
func full(machine uint16) api.Spec {
	return api.Spec{
		Machine: machine, Soname: "liba.so", Runpath: "/lib:/x", Needed: []string{"libb.so", "libc.so"},
		Symbolic: true, Global: true, Nodelete: true,
		Syms: []api.Sym{
			{Name: "f", Ver: "V1", Bind: api.Global, Defined: true, Value: 8, Size: 16},
			{Name: "g", Ver: "V1", Bind: api.Weak},
			{Name: "f", Ver: "V2", Bind: api.Weak, Defined: true, Value: 619, Size: huge, Hidden: true},
			{Name: "h", Bind: api.Local, Defined: true, Value: 0, Ver: "V2", Hidden: true},
			{Name: "i", Bind: api.Global, Defined: true, Value: 520, Hidden: true},
			{Name: "libb.so", Bind: api.Global, Size: 5},
			{Name: "j", Bind: api.Local, Defined: true, Value: 1},
		},
		Rels: []api.Rel{
			{At: 32, Type: absolute(machine), Sym: 2, Add: -5, Has: true},
			{At: 1, Type: relative(machine), Add: 7, Has: true},
			{At: 612, Type: types(machine)[1], Sym: 7, Add: 9, Has: true},
		},
		Relr: []uint64{16, 24, 40, 600},
		Data: data(520), Zeros: 100, Relro: 1,
		Gnu: true, Packed: true, Rela: true, Init: 2, Fini: 3,
	}
}

// names: so many names, each another one, of so many bytes.
func names(many, size int) []string {
	var l []string
	for i := range many {
		end := strconv.Itoa(i)
		l = append(l, strings.Repeat("n", size-len(end))+end)
	}
	return l
}

// owned: so many symbols of a library's own, without versions.
func owned(many, size int) []api.Sym {
	var l []api.Sym
	for _, name := range names(many, size) {
		l = append(l, api.Sym{Name: name, Bind: api.Global, Defined: true})
	}
	return l
}

// copied: a Spec that shares nothing with another one.
func copied(s api.Spec) api.Spec {
	s.Needed, s.Syms, s.Rels, s.Relr, s.Data = slices.Clone(s.Needed), slices.Clone(s.Syms), slices.Clone(s.Rels), slices.Clone(s.Relr), slices.Clone(s.Data)
	return s
}

// dataSize: how many bytes the data of a Spec have.
func dataSize(s api.Spec) uint64 { return uint64(len(s.Data) + s.Zeros) }

// reckoned: the bytes of a Spec in the chapter's reckoning.
func reckoned(s api.Spec) int {
	n := len(s.Soname) + len(s.Runpath) + len(s.Data) + s.Zeros
	n += 64 * (len(s.Syms) + len(s.Needed) + len(s.Rels) + len(s.Relr))
	for _, text := range s.Needed {
		n += len(text)
	}
	for _, x := range s.Syms {
		n += len(x.Name) + len(x.Ver)
	}
	return n
}

// wantSyms: the symbols of a library that is made of a Spec, with its data from a place on.
func wantSyms(s api.Spec, at uint64) []api.Sym {
	l := []api.Sym{{}}
	for _, x := range s.Syms {
		if x.Defined {
			x.Value += at
		}
		l = append(l, x)
	}
	return l
}

// wantRels: its relocations.
func wantRels(s api.Spec, at uint64) []api.Rel {
	var plain, rows []api.Rel
	for _, r := range s.Rels {
		r.At += at
		if r.Has && r.Type == relative(s.Machine) {
			r.Add += int64(at)
		}
		plain = append(plain, r)
	}
	for _, place := range s.Relr {
		rows = append(rows, api.Rel{At: at + place, Type: relative(s.Machine)})
	}
	if s.Packed {
		return append(plain, rows...)
	}
	return append(rows, plain...)
}

// made: what layer 16 says of the file that is made of a Spec, which must be one that has room; where its data begin; the file.
func made(t *testing.T, what string, s api.Spec) (api.Lib, uint64, []byte) {
	t.Helper()
	at := maker.DataAt(s)
	b, e := maker.Make(s)
	if !maker.Right(s) || at == 0 || e != api.OK {
		t.Fatalf("%s: %v, %d, %v", what, maker.Right(s), at, e)
	}
	l, e := image.Parse(b)
	if e != api.OK {
		t.Fatalf("%s: made, but %v", what, e)
	}
	return l, at, b
}

// says: a library can be made of a Spec, and all that the chapter says of its file is so.
func says(t *testing.T, what string, s api.Spec) {
	t.Helper()
	kept := copied(s)
	l, at, b := made(t, what, s)
	if !reflect.DeepEqual(s, kept) && !reflect.DeepEqual(copied(s), copied(kept)) {
		t.Errorf("%s: the Spec is another one", what)
	}
	d := l.Dyn
	if l.Heads.Machine != s.Machine || d.Soname != s.Soname || d.Runpath != s.Runpath || !slices.Equal(d.Needed, s.Needed) {
		t.Errorf("%s: %d, %q, %q, %q", what, l.Heads.Machine, d.Soname, d.Runpath, d.Needed)
	}
	if d.Symbolic != s.Symbolic || d.Global != s.Global || d.Nodelete != s.Nodelete || l.Init != s.Init || l.Fini != s.Fini {
		t.Errorf("%s: %v, %v, %v, %d, %d", what, d.Symbolic, d.Global, d.Nodelete, l.Init, l.Fini)
	}
	if want := wantSyms(s, at); !slices.Equal(l.Syms, want) {
		t.Errorf("%s: symbols %+v, not %+v", what, l.Syms, want)
	}
	if want := wantRels(s, at); !slices.Equal(l.Rels, want) {
		t.Errorf("%s: relocations %+v, not %+v", what, l.Rels, want)
	}
	own := slices.ContainsFunc(s.Syms, func(x api.Sym) bool { return x.Defined && x.Ver != "" })
	if image.Versions(l) != own || (d.GnuHash != 0) != s.Gnu || d.Packed.Has != (s.Packed && len(s.Rels) > 0) {
		t.Errorf("%s: %v, %d, %v", what, image.Versions(l), d.GnuHash, d.Packed)
	}
	saysParts(t, what, s, l.Heads, at, b)
}

// saysParts: likewise, of its parts, and of the data's bytes.
func saysParts(t *testing.T, what string, s api.Spec, h api.Heads, at uint64, b []byte) {
	t.Helper()
	if r := h.Relro; s.Relro == 0 && r != (api.Phdr{}) || s.Relro > 0 && (r.Vaddr%256 != 0 || r.Vaddr > at || r.Vaddr+r.Memsz != at+256*uint64(s.Relro)) {
		t.Errorf("%s: relro %+v, data at %d", what, r, at)
	}
	size := dataSize(s)
	found := false
	for _, p := range h.Loads {
		if p.Vaddr > at || at-p.Vaddr >= p.Memsz {
			if p.Flags != api.R {
				t.Errorf("%s: another part: %+v", what, p)
			}
			continue
		}
		found = true
		if p.Flags != api.R|api.W || at-p.Vaddr+size > p.Memsz {
			t.Errorf("%s: the data's part: %+v, data at %d", what, p, at)
			continue
		}
		memory := append(slices.Clone(b[p.Off:p.Off+p.Filesz]), make([]byte, p.Memsz-p.Filesz)...)
		if got, want := memory[at-p.Vaddr:][:size], append(slices.Clone(s.Data), make([]byte, s.Zeros)...); !slices.Equal(got, want) {
			t.Errorf("%s: the data are %v, not %v", what, got, want)
		}
	}
	if !found || at%256 != 0 || at+size > spanEnd {
		t.Errorf("%s: data at %d, parts %+v", what, at, h.Loads)
	}
}

// isntMade: nothing is made of a Spec, of which a library may be made, or not.
func isntMade(t *testing.T, what string, s api.Spec, right bool) {
	t.Helper()
	if b, e := maker.Make(s); maker.Right(s) != right || maker.DataAt(s) != 0 || e != api.ErrSpec || len(b) != 0 {
		t.Errorf("%s: %v, %d, %d bytes, %v", what, maker.Right(s), maker.DataAt(s), len(b), e)
	}
}

// wrong: no library can be made of a Spec.
func wrong(t *testing.T, what string, s api.Spec) {
	t.Helper()
	isntMade(t, what, s, false)
}

// noRoom: one could be made of it, but it has no room.
func noRoom(t *testing.T, what string, s api.Spec) {
	t.Helper()
	isntMade(t, what, s, true)
}

// is: says or wrong.
func is(t *testing.T, what string, s api.Spec, ok bool) {
	t.Helper()
	if ok {
		says(t, what, s)
	} else {
		wrong(t, what, s)
	}
}
