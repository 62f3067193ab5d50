package vmem_test

import (
	"math"
	"math/bits"
	"slices"
	"testing"

	"messuage/api"
	"messuage/rows"
	"messuage/vmem"
)

// numbers is a row of numbers, and what is made of them here.
type numbers struct{ *rows.Row }

func row(seed uint64) *numbers { return &numbers{rows.New(seed)} }

// hint: often near the bottom or the top, so that rooms meet there.
func (r *numbers) hint() uint64 {
	switch r.Below(6) {
	case 0:
		return 0
	case 1:
		return r.Next()
	case 2:
		return top - uint64(r.Below(20000))
	case 3:
		return math.MaxUint64 - uint64(r.Below(20000))
	}
	return uint64(r.Below(20000))
}

// model is a space by the chapter's words alone: pages by where they are, with no more cleverness than that.
type model struct {
	budget int
	rooms  map[uint64]int        // pages of the room that begins there
	there  map[uint64]*vmem.Page // by where it begins
}

func newModel(budget int) *model {
	return &model{budget, map[uint64]int{}, map[uint64]*vmem.Page{}}
}

func (m *model) used() int {
	used := 0
	for _, pages := range m.rooms {
		used += pages
	}
	return used
}

// free: has the room below the top, and among the others? Asked page by page.
func (m *model) free(at uint64, pages int) bool {
	for begin, many := range m.rooms {
		for i := range uint64(pages) {
			if one := at + i*256; one >= begin && one < begin+uint64(many)*256 {
				return false
			}
		}
	}
	return at+uint64(pages)*256 <= top
}

func (m *model) reserve(hint uint64, pages int) (uint64, api.Errno) {
	if pages < 1 || pages > 64 {
		return 0, api.ErrSize
	}
	if m.used()+pages > m.budget {
		return 0, api.ErrBudget
	}
	at := hint % top / 256 * 256
	if at == 0 {
		at = 256
	}
	for at < top && !m.free(at, pages) {
		at += 256
	}
	if at == top {
		for at = 256; !m.free(at, pages); {
			at += 256
		}
	}
	m.rooms[at] = pages
	return at, api.OK
}

func (m *model) release(at uint64) api.Errno {
	pages, ok := m.rooms[at]
	if !ok {
		return api.ErrRange
	}
	delete(m.rooms, at)
	for i := range uint64(pages) {
		delete(m.there, at+i*256)
	}
	return api.OK
}

// lie: do the bytes lie in a room?
func (m *model) lie(at, size uint64) bool {
	end, round := bits.Add64(at, size, 0)
	for begin, pages := range m.rooms {
		if round == 0 && at >= begin && end <= begin+uint64(pages)*256 {
			return true
		}
	}
	return false
}

// touched: byte by byte, the pages on which they are; nil for one that isn't there.
func (m *model) touched(at, size uint64) []*vmem.Page {
	var l []*vmem.Page
	for i := range size {
		if i == 0 || (at+i)%256 == 0 {
			l = append(l, m.there[(at+i)/256*256])
		}
	}
	return l
}

func (m *model) doMap(at, size uint64, p int, data []byte) api.Errno {
	switch {
	case at%256 != 0:
		return api.ErrAlign
	case size == 0 || size < uint64(len(data)):
		return api.ErrSize
	case p < 0 || p > 7:
		return api.ErrProt
	case !m.lie(at, size):
		return api.ErrRange
	}
	for _, one := range m.touched(at, size) {
		if one != nil {
			return api.ErrTaken
		}
	}
	for i := range size {
		if i%256 == 0 {
			m.there[at+i] = &vmem.Page{At: at + i, Prot: p}
		}
		if i < uint64(len(data)) {
			m.there[(at+i)/256*256].Data[i%256] = data[i]
		}
	}
	return api.OK
}

// reach: ErrRange and ErrProt as Read and Write have them; without a bit, as Protect has it.
func (m *model) reach(at, size uint64, bit int) api.Errno {
	if !m.lie(at, size) || slices.Contains(m.touched(at, size), nil) {
		return api.ErrRange
	}
	for _, one := range m.touched(at, size) {
		if one.Prot&bit != bit {
			return api.ErrProt
		}
	}
	return api.OK
}

func (m *model) protect(at, size uint64, p int) api.Errno {
	if at%256 != 0 {
		return api.ErrAlign
	}
	if p < 0 || p > 7 {
		return api.ErrProt
	}
	e := m.reach(at, size, 0)
	if e == api.OK {
		for _, one := range m.touched(at, size) {
			one.Prot = p
		}
	}
	return e
}

func (m *model) read(at, size uint64) ([]byte, api.Errno) {
	if e := m.reach(at, size, 4); e != api.OK {
		return nil, e
	}
	var b []byte
	for i := range size {
		b = append(b, m.there[(at+i)/256*256].Data[(at+i)%256])
	}
	return b, api.OK
}

func (m *model) write(at uint64, data []byte) api.Errno {
	e := m.reach(at, uint64(len(data)), 2)
	if e == api.OK {
		for i, b := range data {
			one := at + uint64(i)
			m.there[one/256*256].Data[one%256] = b
		}
	}
	return e
}

func (m *model) state() state {
	st := state{used: m.used()}
	for at, pages := range m.rooms {
		st.regions = append(st.regions, vmem.Region{At: at, Pages: pages})
	}
	slices.SortFunc(st.regions, func(a, b vmem.Region) int { return int(int64(a.At) - int64(b.At)) })
	for _, one := range m.there {
		st.pages = append(st.pages, *one)
	}
	slices.SortFunc(st.pages, func(a, b vmem.Page) int { return int(int64(a.At) - int64(b.At)) })
	return st
}

// place: at or near a room's edges, or anywhere.
func (r *numbers) place(regions []vmem.Region) uint64 {
	if len(regions) == 0 || r.Below(20) == 0 {
		return r.hint()
	}
	one := regions[r.Below(len(regions))]
	at := one.At + uint64(r.Below(one.Pages+1))*256
	if r.Below(3) == 0 {
		at += uint64(r.Below(520)) - 260
	}
	return at
}

func (r *numbers) size() uint64 {
	switch r.Below(8) {
	case 0:
		return 0
	case 1:
		return r.Next()
	case 2:
		return uint64(r.Below(5)) * 256
	}
	return uint64(r.Below(1000))
}

func (r *numbers) prot() int {
	if r.Below(12) == 0 {
		return r.Below(40) - 20
	}
	return r.Below(8) | r.Below(2)*6 // more often both R and W than not
}

func (r *numbers) data(most int) []byte {
	b := make([]byte, r.Below(most))
	for i := range b {
		b[i] = byte(r.Next() >> 30)
	}
	return b
}

// step: one call of the space and of the model; are their answers the same?
func step(r *numbers, s *vmem.Space, m *model) (string, bool) {
	at, size, p := r.place(s.Regions()), r.size(), r.prot()
	switch r.Below(10) {
	case 0, 1:
		hint, pages := r.hint(), r.Below(9)
		if r.Below(10) == 0 {
			pages = r.Below(70) - 2
		}
		got, e := s.Reserve(hint, pages)
		want, wantErr := m.reserve(hint, pages)
		return "Reserve", got == want && e == wantErr
	case 2:
		if r.Below(2) == 0 {
			return "Release", s.Release(at) == m.release(at)
		}
		fallthrough
	case 3, 4:
		data := r.data(300)
		if r.Below(4) != 0 {
			size = max(size, uint64(len(data)))
		}
		return "Map", s.Map(at, size, p, data) == m.doMap(at, size, p, data)
	case 5:
		return "Protect", s.Protect(at, size, p) == m.protect(at, size, p)
	case 6:
		got, e := s.Read(at, size)
		want, wantErr := m.read(at, size)
		return "Read", slices.Equal(got, want) && e == wantErr
	case 7:
		data := r.data(600)
		return "Write", s.Write(at, data) == m.write(at, data)
	case 8:
		got, e := s.Load(at)
		b, wantErr := m.read(at, 8)
		want := uint64(0)
		for i, one := range b {
			want += uint64(one) << (8 * i)
		}
		return "Load", got == want && e == wantErr
	}
	n, data := r.Next(), []byte{}
	for i := range 8 {
		data = append(data, byte(n>>(8*i)))
	}
	return "Store", s.Store(at, n) == m.write(at, data)
}

// P5.1 to P5.5: rows of any calls, held against the chapter's words.
func TestAgainstModel(t *testing.T) {
	for seed := range uint64(60) {
		r := row(seed)
		budget := 1 + r.Below(40)
		s, m := space(t, budget), newModel(budget)
		for i := range 250 {
			if r.Below(15) == 0 {
				old := s
				s = s.Copy()
				old.Write(r.place(s.Regions()), r.data(600))
				old.Release(r.place(s.Regions())) // of the old one alone
			}
			if what, ok := step(r, s, m); !ok {
				t.Fatalf("row %d, step %d: %s", seed, i, what)
			}
			if !stateOf(s).same(m.state()) {
				t.Fatalf("row %d, step %d: it isn't as it should be", seed, i)
			}
		}
	}
}

// told is what a call has answered, but for where a room begins.
type told struct {
	e    api.Errno
	data string
	n    uint64
}

// call: any call of what is in the room that begins there, with places counted from there.
func call(r *numbers, s *vmem.Space, begin uint64, pages int) told {
	off, size, p, data, n := 256*r.Below(pages), uint64(r.Below(500)), r.prot(), r.data(300), r.Next()
	kind := r.Below(14)
	if r.Below(3) == 0 {
		off += r.Below(256)
	}
	if kind < 10 && r.Below(8) == 0 { // at the end another room may begin, but no bytes are told from this one
		off, size, data = 256*pages, 0, nil
	}
	at := begin + uint64(off)
	switch kind {
	case 0, 1, 2, 3:
		return told{e: s.Map(at, size+uint64(len(data)/2), p, data)}
	case 4:
		return told{e: s.Protect(at, size, p)}
	case 5, 6:
		return told{e: s.Write(at, data)}
	case 7, 8, 9:
		b, e := s.Read(at, size)
		return told{e: e, data: string(b)}
	case 10, 11:
		return told{e: s.Store(at, n)}
	}
	n, e := s.Load(at)
	return told{e: e, n: n}
}

// play: a row of calls, told from the beginnings of the rooms, which lie where the hints say.
func play(t *testing.T, seed uint64, hints func(r *numbers) uint64) []told {
	t.Helper()
	r, places := row(seed), row(seed+1000)
	s := space(t, 1+r.Below(24))
	var rooms []vmem.Region // in the order in which they came
	var all []told
	for range 200 {
		kind, pages, which := r.Below(20), 1+r.Below(6), 0
		if len(rooms) > 0 {
			which = r.Below(len(rooms))
		}
		switch {
		case kind < 3 || len(rooms) == 0:
			at, e := s.Reserve(hints(places), pages)
			if e == api.OK {
				rooms = append(rooms, vmem.Region{At: at, Pages: pages})
			}
			if e == api.OK && r.Below(2) == 0 { // or few of the bytes would be there
				e = s.Map(at, uint64(pages)*256, 6, r.data(256))
			}
			all = append(all, told{e: e, n: uint64(s.Used())})
		case kind == 3:
			all = append(all, told{e: s.Release(rooms[which].At)})
			rooms = slices.Delete(rooms, which, which+1)
		default:
			all = append(all, call(r, s, rooms[which].At, rooms[which].Pages))
		}
	}
	return all
}

// P5.6: hints turn nothing but where rooms lie.
func TestHintsTurnNothingElse(t *testing.T) {
	sideBySide := func(*numbers) uint64 { return 0 }
	ways := map[string]func(r *numbers) uint64{
		"far apart":  (*numbers).Next,
		"near":       (*numbers).hint,
		"at the top": func(r *numbers) uint64 { return top - uint64(r.Below(2000)) },
		"the last":   func(*numbers) uint64 { return math.MaxUint64 },
	}
	good := 0
	for seed := range uint64(80) {
		want := play(t, seed, sideBySide)
		for _, one := range want {
			if one.e == api.OK && one.data != "" {
				good++
			}
		}
		for name, hints := range ways {
			if got := play(t, seed, hints); !slices.Equal(got, want) {
				t.Fatalf("row %d, %s: other answers", seed, name)
			}
		}
	}
	if good < 500 {
		t.Errorf("just %d rows of bytes were read", good)
	}
}
