package vmem_test

import (
	"bytes"
	"math"
	"slices"
	"testing"

	"messuage/api"
	"messuage/vmem"
)

const (
	page = 256
	top  = 1 << 40
	span = 64 * page // bytes of the longest room
)

func space(t *testing.T, budget int) *vmem.Space {
	t.Helper()
	s, e := vmem.New(budget)
	if s == nil || e != api.OK {
		t.Fatalf("New(%d): %v, %v", budget, s, e)
	}
	return s
}

func checkErr(t *testing.T, what string, got, want api.Errno) {
	t.Helper()
	if got != want {
		t.Errorf("%s: %v, not %v", what, got, want)
	}
}

func checkReserve(t *testing.T, s *vmem.Space, hint uint64, pages int, want uint64, wantErr api.Errno) {
	t.Helper()
	if at, e := s.Reserve(hint, pages); at != want || e != wantErr {
		t.Errorf("Reserve(%#x, %d): %#x, %v, not %#x, %v", hint, pages, at, e, want, wantErr)
	}
}

func checkMap(t *testing.T, s *vmem.Space, at, size uint64, p int, data string, want api.Errno) {
	t.Helper()
	if e := s.Map(at, size, p, []byte(data)); e != want {
		t.Errorf("Map(%#x, %d, %d, %d bytes): %v, not %v", at, size, p, len(data), e, want)
	}
}

func checkProtect(t *testing.T, s *vmem.Space, at, size uint64, p int, want api.Errno) {
	t.Helper()
	if e := s.Protect(at, size, p); e != want {
		t.Errorf("Protect(%#x, %d, %d): %v, not %v", at, size, p, e, want)
	}
}

func checkRead(t *testing.T, s *vmem.Space, at, size uint64, want string, wantErr api.Errno) {
	t.Helper()
	if b, e := s.Read(at, size); string(b) != want || e != wantErr {
		t.Errorf("Read(%#x, %d): %q, %v, not %q, %v", at, size, b, e, want, wantErr)
	}
}

func checkWrite(t *testing.T, s *vmem.Space, at uint64, data string, want api.Errno) {
	t.Helper()
	if e := s.Write(at, []byte(data)); e != want {
		t.Errorf("Write(%#x, %q): %v, not %v", at, data, e, want)
	}
}

func checkRelease(t *testing.T, s *vmem.Space, at uint64, want api.Errno) {
	t.Helper()
	if e := s.Release(at); e != want {
		t.Errorf("Release(%#x): %v, not %v", at, e, want)
	}
}

func checkRegions(t *testing.T, s *vmem.Space, want ...vmem.Region) {
	t.Helper()
	if got := s.Regions(); !slices.Equal(got, want) {
		t.Errorf("Regions: %v, not %v", got, want)
	}
	used := 0
	for _, r := range want {
		used += r.Pages
	}
	if got := s.Used(); got != used {
		t.Errorf("Used: %d, not %d", got, used)
	}
}

// state is all that a space tells of itself.
type state struct {
	used    int
	regions []vmem.Region
	pages   []vmem.Page
}

func stateOf(s *vmem.Space) state { return state{s.Used(), s.Regions(), s.Pages()} }

func (a state) same(b state) bool {
	return a.used == b.used && slices.Equal(a.regions, b.regions) && slices.Equal(a.pages, b.pages)
}

// zeros: so many bytes 0.
func zeros(many int) string { return string(make([]byte, many)) }

// P5.1 to P5.3: the chapter's examples.
func TestExamples(t *testing.T) {
	s := space(t, 4)
	checkReserve(t, s, 1000, 2, 768, api.OK)
	checkReserve(t, s, 0, 1, 256, api.OK)
	checkReserve(t, s, 0, 2, 0, api.ErrBudget)
	checkMap(t, s, 768, 300, 6, "ab", api.OK)
	checkRead(t, s, 768, 3, "ab\x00", api.OK)
	checkWrite(t, s, 1000, "xyz", api.OK)
	checkProtect(t, s, 768, 512, 4, api.OK)
	checkWrite(t, s, 768, "z", api.ErrProt)
	checkMap(t, s, 768, 1, 4, "", api.ErrTaken)
	checkRead(t, s, 768, 512, "ab"+zeros(230)+"xyz"+zeros(277), api.OK)
	checkRegions(t, s, vmem.Region{At: 256, Pages: 1}, vmem.Region{At: 768, Pages: 2})
}

// P5.1
func TestNew(t *testing.T) {
	for _, budget := range []int{math.MinInt, -1024, -1, 0, 1025, 2048, math.MaxInt32, math.MaxInt} {
		if s, e := vmem.New(budget); s != nil || e != api.ErrSize {
			t.Errorf("New(%d): %v, %v", budget, s, e)
		}
	}
	for _, budget := range []int{1, 2, 63, 64, 65, 1023, 1024} {
		s := space(t, budget)
		if s.Used() != 0 || len(s.Regions()) != 0 || len(s.Pages()) != 0 {
			t.Errorf("New(%d) isn't empty", budget)
		}
		checkErr(t, "Release", s.Release(256), api.ErrRange)
		checkRead(t, s, 256, 0, "", api.ErrRange)
	}
	a, b := space(t, 1), space(t, 1)
	checkReserve(t, a, 0, 1, 256, api.OK)
	checkRegions(t, b)
}

// P5.1
func TestReserveSizes(t *testing.T) {
	s := space(t, 1024)
	for _, pages := range []int{math.MinInt, -64, -1, 0, 65, 1024, 1025, math.MaxInt32, math.MaxInt} {
		checkReserve(t, s, 512, pages, 0, api.ErrSize)
	}
	checkRegions(t, s)
	checkReserve(t, s, 512, 64, 512, api.OK)
	checkReserve(t, s, 512, 1, 512+span, api.OK)
	checkRegions(t, s, vmem.Region{At: 512, Pages: 64}, vmem.Region{At: 512 + span, Pages: 1})
}

// P5.1: the budget just met, and passed by one; what is refused takes nothing of it.
func TestBudget(t *testing.T) {
	for _, budget := range []int{1, 2, 64, 65, 100, 1024} {
		s := space(t, budget)
		for left := budget; left > 0; left = budget - s.Used() {
			if left < 64 {
				checkReserve(t, s, 0, left+1, 0, api.ErrBudget)
				checkReserve(t, s, math.MaxUint64, 64, 0, api.ErrBudget)
			}
			if _, e := s.Reserve(0, min(left, 64)); e != api.OK {
				t.Fatalf("%d of %d: %v", min(left, 64), budget, e)
			}
		}
		if s.Used() != budget {
			t.Errorf("%d of %d", s.Used(), budget)
		}
		checkReserve(t, s, 0, 1, 0, api.ErrBudget)
		checkReserve(t, s, 0, 0, 0, api.ErrSize) // named ahead of ErrBudget
		checkReserve(t, s, 0, 65, 0, api.ErrSize)
		last := s.Regions()[len(s.Regions())-1]
		checkRelease(t, s, last.At, api.OK)
		if last.Pages < 64 {
			checkReserve(t, s, 0, last.Pages+1, 0, api.ErrBudget)
		}
		checkReserve(t, s, last.At, last.Pages, last.At, api.OK)
		checkReserve(t, s, 0, 1, 0, api.ErrBudget)
	}
}

// P5.1: a page of its own for each of a whole budget.
func TestManyRooms(t *testing.T) {
	s := space(t, 1024)
	for i := range 1024 {
		checkReserve(t, s, 0, 1, 256+256*uint64(i), api.OK)
	}
	checkReserve(t, s, 0, 1, 0, api.ErrBudget)
	for i := 0; i < 1024; i += 2 {
		checkRelease(t, s, 256+256*uint64(i), api.OK)
	}
	checkReserve(t, s, 0, 2, 256+256*1024, api.OK)
	checkReserve(t, s, 0, 1, 256, api.OK)
	checkReserve(t, s, 768, 1, 768, api.OK)
	checkReserve(t, s, 768, 1, 1280, api.OK)
}

// P5.1: which place a hint says.
func TestHints(t *testing.T) {
	cases := []struct{ hint, want uint64 }{
		{0, 256}, {1, 256}, {255, 256}, {256, 256}, {257, 256}, {511, 256}, {512, 512}, {1000, 768},
		{top - 1, top - 256}, {top - 256, top - 256}, {top - 257, top - 512},
		{top, 256}, {top + 1, 256}, {top + 255, 256}, {top + 256, 256}, {top + 511, 256}, {top + 512, 512}, {2*top - 1, top - 256},
		{1 << 63, 256}, {1<<63 + 1024, 1024}, {math.MaxUint64, top - 256}, {math.MaxUint64 - 256, top - 512}, {math.MaxUint64 - top + 1, 256},
	}
	for _, c := range cases {
		checkReserve(t, space(t, 1), c.hint, 1, c.want, api.OK)
	}
}

// P5.1: rooms end at the top, at the most.
func TestTop(t *testing.T) {
	for pages := 1; pages <= 64; pages++ {
		size := uint64(pages) * page
		checkReserve(t, space(t, 64), top-size, pages, top-size, api.OK)
		checkReserve(t, space(t, 64), top-size-page, pages, top-size-page, api.OK)
		if pages > 1 {
			checkReserve(t, space(t, 64), top-size+page, pages, 256, api.OK)
			checkReserve(t, space(t, 64), math.MaxUint64, pages, 256, api.OK)
		}
	}
	s := space(t, 8)
	checkReserve(t, s, top-1, 1, top-256, api.OK)
	checkReserve(t, s, top-1, 1, 256, api.OK)
	checkReserve(t, s, top-256, 1, 512, api.OK)
	checkReserve(t, s, top-512, 2, 768, api.OK)
	checkReserve(t, s, top-512, 1, top-512, api.OK)
	checkReserve(t, s, top-600, 1, top-768, api.OK)
	checkRegions(t, s, vmem.Region{At: 256, Pages: 1}, vmem.Region{At: 512, Pages: 1}, vmem.Region{At: 768, Pages: 2},
		vmem.Region{At: top - 768, Pages: 1}, vmem.Region{At: top - 512, Pages: 1}, vmem.Region{At: top - 256, Pages: 1})
	checkMap(t, s, top-256, 256, 6, "", api.OK)
	checkErr(t, "Store", s.Store(top-8, math.MaxUint64), api.OK)
	checkRead(t, s, top-9, 9, "\x00"+"\xff\xff\xff\xff\xff\xff\xff\xff", api.OK)
	checkRead(t, s, top, 0, "", api.OK)
	checkRead(t, s, top+1, 0, "", api.ErrRange)
	checkRead(t, s, top-1, 2, "", api.ErrRange)
}

// P5.1: the least place that is wide enough, among others.
func TestGaps(t *testing.T) {
	s := space(t, 100)
	checkReserve(t, s, 1024, 2, 1024, api.OK) // 1024 to 1536
	checkReserve(t, s, 2048, 1, 2048, api.OK) // 2048 to 2304
	at := []uint64{256, 1024, 2048}
	cases := []struct {
		hint  uint64
		pages int
		want  uint64
	}{
		{0, 1, 256}, {0, 3, 256}, {0, 4, 2304}, {0, 2, 256},
		{256, 3, 256}, {512, 3, 2304}, {512, 2, 512}, {768, 1, 768}, {768, 2, 1536}, {768, 3, 2304},
		{1024, 1, 1536}, {1279, 2, 1536}, {1280, 2, 1536}, {1535, 3, 2304}, {1536, 2, 1536}, {1792, 1, 1792}, {1792, 2, 2304},
		{2048, 1, 2304}, {2303, 64, 2304}, {2304, 1, 2304}, {4096, 64, 4096},
		{top - 256, 3, 256}, {top - 256, 4, 2304}, {top - 256, 64, 2304},
	}
	for _, c := range cases {
		one := s.Copy()
		checkReserve(t, one, c.hint, c.pages, c.want, api.OK)
		checkRelease(t, one, c.want, api.OK)
		checkRegions(t, one, vmem.Region{At: at[1], Pages: 2}, vmem.Region{At: at[2], Pages: 1})
	}
	// A gap is filled to the page.
	checkReserve(t, s, 1536, 2, 1536, api.OK)
	checkReserve(t, s, 1024, 1, 2304, api.OK)
	checkReserve(t, s, 0, 3, 256, api.OK)
	checkReserve(t, s, 0, 1, 2560, api.OK)
	checkRegions(t, s, vmem.Region{At: 256, Pages: 3}, vmem.Region{At: 1024, Pages: 2}, vmem.Region{At: 1536, Pages: 2},
		vmem.Region{At: 2048, Pages: 1}, vmem.Region{At: 2304, Pages: 1}, vmem.Region{At: 2560, Pages: 1})
}

// P5.1
func TestRelease(t *testing.T) {
	s := space(t, 8)
	checkReserve(t, s, 1024, 3, 1024, api.OK)
	checkReserve(t, s, 0, 2, 256, api.OK)
	checkReserve(t, s, 4096, 2, 4096, api.OK)
	checkMap(t, s, 1024, 700, 6, "abc", api.OK)
	checkMap(t, s, 256, 1, 4, "x", api.OK)
	was := stateOf(s)
	for _, at := range []uint64{0, 1, 255, 257, 512, 768, 1023, 1025, 1280, 1792, 4095, 4097, 4352, 4608, top, top + 1024, 1<<63 + 1024, math.MaxUint64} {
		checkRelease(t, s, at, api.ErrRange)
	}
	if !stateOf(s).same(was) {
		t.Error("a Release that was refused has turned something")
	}
	checkRelease(t, s, 1024, api.OK)
	checkRelease(t, s, 1024, api.ErrRange)
	checkRead(t, s, 1024, 1, "", api.ErrRange)
	checkRead(t, s, 1024, 0, "", api.ErrRange)
	checkRead(t, s, 256, 1, "x", api.OK)
	checkRegions(t, s, vmem.Region{At: 256, Pages: 2}, vmem.Region{At: 4096, Pages: 2})
	// What was in it is gone: none of its pages is there, when it is taken anew.
	checkReserve(t, s, 1024, 4, 1024, api.OK)
	checkRead(t, s, 1024, 1, "", api.ErrRange)
	checkMap(t, s, 1024, 1024, 4, "", api.OK)
	checkRead(t, s, 1024, 1024, zeros(1024), api.OK)
	for _, at := range []uint64{4096, 256, 1024} {
		checkRelease(t, s, at, api.OK)
	}
	checkRegions(t, s)
	if len(s.Pages()) != 0 {
		t.Error("pages without rooms")
	}
}

// P5.2
func TestMap(t *testing.T) {
	s := space(t, 8)
	checkReserve(t, s, 1024, 4, 1024, api.OK)
	checkMap(t, s, 1280, 257, 5, "hello", api.OK) // two pages: the second and the third
	checkRead(t, s, 1280, 512, "hello"+zeros(507), api.OK)
	checkRead(t, s, 1024, 1, "", api.ErrRange)
	checkRead(t, s, 1792, 1, "", api.ErrRange)
	checkMap(t, s, 1024, 256, 4, string(bytes.Repeat([]byte("q"), 256)), api.OK)
	checkRead(t, s, 1279, 2, "qh", api.OK)
	checkMap(t, s, 1792, 1, 7, "!", api.OK)
	checkRead(t, s, 1791, 3, "\x00!\x00", api.OK)
	got := s.Pages()
	if len(got) != 4 {
		t.Fatal(len(got))
	}
	for i, want := range []struct {
		at   uint64
		prot int
		b    byte
	}{{1024, 4, 'q'}, {1280, 5, 'h'}, {1536, 5, 0}, {1792, 7, '!'}} {
		if got[i].At != want.at || got[i].Prot != want.prot || got[i].Data[0] != want.b {
			t.Errorf("page %d: %d, %d, %d", i, got[i].At, got[i].Prot, got[i].Data[0])
		}
	}
}

// P5.2: data over several pages, of all lengths at the edges of pages.
func TestMapData(t *testing.T) {
	long := make([]byte, 2000)
	for i := range long {
		long[i] = byte(i%251 + 1)
	}
	for _, many := range []int{0, 1, 255, 256, 257, 511, 512, 513, 1000, 1023, 1024} {
		for _, more := range []int{0, 1, 24, 255, 256} {
			if many+more == 0 || many+more > 1024 {
				continue
			}
			s := space(t, 4)
			checkReserve(t, s, 512, 4, 512, api.OK)
			// Behind the length of the list lie more bytes, which are not its own.
			checkErr(t, "Map", s.Map(512, uint64(many+more), 4, long[:many]), api.OK)
			pages := (many + more + 255) / 256
			checkRead(t, s, 512, uint64(pages*256), string(long[:many])+zeros(pages*256-many), api.OK)
			if len(s.Pages()) != pages {
				t.Errorf("%d bytes: %d pages", many+more, len(s.Pages()))
			}
			if pages < 4 {
				checkRead(t, s, 512, uint64(pages*256+1), "", api.ErrRange)
			}
		}
	}
}

// P5.2: each error, and which is named first.
func TestMapErrors(t *testing.T) {
	s := space(t, 8)
	checkReserve(t, s, 1024, 4, 1024, api.OK)
	checkMap(t, s, 1280, 256, 0, "", api.OK)
	was := stateOf(s)
	cases := []struct {
		at, size uint64
		p        int
		data     string
		want     api.Errno
	}{
		{1025, 256, 4, "", api.ErrAlign},
		{1279, 0, 9, "a", api.ErrAlign},
		{1, math.MaxUint64, -1, "", api.ErrAlign},
		{math.MaxUint64, 1, 4, "", api.ErrAlign},
		{1024 + 128, 1, 4, "", api.ErrAlign},
		{1024, 0, 4, "", api.ErrSize},
		{1024, 0, 8, "", api.ErrSize},
		{1024, 0, 4, "a", api.ErrSize},
		{1024, 1, 4, "ab", api.ErrSize},
		{1024, 1, 8, "ab", api.ErrSize},
		{0, 255, -1, zeros(256), api.ErrSize},
		{2048, 0, 4, "", api.ErrSize},
		{1024, 256, 8, "", api.ErrProt},
		{1024, 256, -1, "", api.ErrProt},
		{1024, 256, math.MaxInt, "", api.ErrProt},
		{1024, 256, math.MinInt, "", api.ErrProt},
		{1024, 256, 16, "", api.ErrProt},
		{0, 256, 8, "", api.ErrProt},
		{1280, 256, -8, "", api.ErrProt},
		{0, 1, 4, "", api.ErrRange},
		{0, 2048, 4, "", api.ErrRange},
		{256, 1, 4, "", api.ErrRange},
		{768, 256, 4, "", api.ErrRange},
		{768, 257, 4, "", api.ErrRange},
		{2048, 1, 4, "", api.ErrRange},
		{1792, 257, 4, "", api.ErrRange},
		{1024, 1025, 4, "", api.ErrRange},
		{1280, 1024, 4, "", api.ErrRange}, // named ahead of ErrTaken
		{1024, math.MaxUint64, 4, "", api.ErrRange},
		{1024, math.MaxUint64 - 1023, 4, "", api.ErrRange},
		{1792, math.MaxUint64 - 1535, 4, "", api.ErrRange},
		{math.MaxUint64 - 255, 256, 4, "", api.ErrRange},
		{math.MaxUint64 - 255, 2048, 4, "", api.ErrRange},
		{top + 1024, 1, 4, "", api.ErrRange},
		{1 << 63, 1, 4, "", api.ErrRange},
		{1280, 1, 4, "", api.ErrTaken},
		{1280, 256, 4, "", api.ErrTaken},
		{1024, 257, 4, "", api.ErrTaken},
		{1024, 1024, 4, "abc", api.ErrTaken},
		{1280, 768, 4, "abc", api.ErrTaken},
	}
	for _, c := range cases {
		checkMap(t, s, c.at, c.size, c.p, c.data, c.want)
		if !stateOf(s).same(was) {
			t.Fatalf("Map(%d, %d, %d) has turned something", c.at, c.size, c.p)
		}
	}
	checkMap(t, s, 1024, 256, 4, "a", api.OK) // ends where the taken page begins
	checkMap(t, s, 1536, 512, 7, "b", api.OK)
	checkRead(t, s, 1024, 1, "a", api.OK)
}

// P5.2, P5.3: each of the eight numbers, and what may be done with it.
func TestProts(t *testing.T) {
	for p := range 8 {
		s := space(t, 2)
		checkReserve(t, s, 256, 2, 256, api.OK)
		checkMap(t, s, 256, 256, p, "m", api.OK)
		checkMap(t, s, 512, 256, 7, "n", api.OK)
		for range 2 {
			read, write := api.ErrProt, api.ErrProt
			if p&4 != 0 {
				read = api.OK
			}
			if p&2 != 0 {
				write = api.OK
			}
			if got := s.Pages(); len(got) != 2 || got[0].Prot != p {
				t.Errorf("%d: %v", p, got)
			}
			_, e := s.Read(256, 1)
			checkErr(t, "Read", e, read)
			_, e = s.Read(511, 2)
			checkErr(t, "Read", e, read)
			_, e = s.Load(256)
			checkErr(t, "Load", e, read)
			checkErr(t, "Write", s.Write(256, []byte("m")), write)
			checkErr(t, "Write", s.Write(511, []byte("mn")), write)
			checkErr(t, "Store", s.Store(256, 1), write)
			// With no bytes, no page is touched.
			checkRead(t, s, 256, 0, "", api.OK)
			checkRead(t, s, 300, 0, "", api.OK)
			checkWrite(t, s, 300, "", api.OK)
			checkRead(t, s, 512, 0, "", api.OK)
			p = 7 - p
			checkProtect(t, s, 256, 1, p, api.OK)
		}
	}
}

// P5.3
func TestProtect(t *testing.T) {
	s := space(t, 8)
	checkReserve(t, s, 1024, 5, 1024, api.OK)
	checkMap(t, s, 1024, 1024, 6, "abc", api.OK) // the fifth page isn't there
	prots := func() [4]int {
		var got [4]int
		for i, one := range s.Pages() {
			got[i] = one.Prot
		}
		return got
	}
	was := s.Pages()
	steps := []struct {
		at, size uint64
		p        int
		want     api.Errno
		prots    [4]int
	}{
		{1024, 0, 0, api.OK, [4]int{6, 6, 6, 6}},
		{1280, 0, 0, api.OK, [4]int{6, 6, 6, 6}},
		{2048, 0, 0, api.OK, [4]int{6, 6, 6, 6}}, // the page there isn't, but no byte touches it
		{2304, 0, 0, api.OK, [4]int{6, 6, 6, 6}}, // the room's end
		{1280, 1, 1, api.OK, [4]int{6, 1, 6, 6}},
		{1280, 257, 3, api.OK, [4]int{6, 3, 3, 6}},
		{1024, 1024, 0, api.OK, [4]int{0, 0, 0, 0}},
		{1792, 256, 7, api.OK, [4]int{0, 0, 0, 7}},
		{1024, 256, 4, api.OK, [4]int{4, 0, 0, 7}},
		{1024, 256, 4, api.OK, [4]int{4, 0, 0, 7}},
		{1025, 1, 5, api.ErrAlign, [4]int{4, 0, 0, 7}},
		{1025, 0, 8, api.ErrAlign, [4]int{4, 0, 0, 7}},
		{math.MaxUint64, 1, -1, api.ErrAlign, [4]int{4, 0, 0, 7}},
		{1024, 1, 8, api.ErrProt, [4]int{4, 0, 0, 7}},
		{1024, 1, -1, api.ErrProt, [4]int{4, 0, 0, 7}},
		{1024, 0, math.MaxInt, api.ErrProt, [4]int{4, 0, 0, 7}},
		{0, 1, math.MinInt, api.ErrProt, [4]int{4, 0, 0, 7}},
		{2048, 1, 16, api.ErrProt, [4]int{4, 0, 0, 7}},
		{0, 1, 5, api.ErrRange, [4]int{4, 0, 0, 7}},
		{768, 0, 5, api.ErrRange, [4]int{4, 0, 0, 7}},
		{768, 512, 5, api.ErrRange, [4]int{4, 0, 0, 7}},
		{2048, 1, 5, api.ErrRange, [4]int{4, 0, 0, 7}},
		{1024, 1025, 5, api.ErrRange, [4]int{4, 0, 0, 7}},
		{1024, 1281, 5, api.ErrRange, [4]int{4, 0, 0, 7}},
		{2304, 1, 5, api.ErrRange, [4]int{4, 0, 0, 7}},
		{2560, 0, 5, api.ErrRange, [4]int{4, 0, 0, 7}},
		{1024, math.MaxUint64, 5, api.ErrRange, [4]int{4, 0, 0, 7}},
		{1280, math.MaxUint64 - 1023, 5, api.ErrRange, [4]int{4, 0, 0, 7}},
		{math.MaxUint64 - 255, 256, 5, api.ErrRange, [4]int{4, 0, 0, 7}},
	}
	for _, c := range steps {
		checkProtect(t, s, c.at, c.size, c.p, c.want)
		if prots() != c.prots {
			t.Fatalf("behind Protect(%d, %d, %d): %v, not %v", c.at, c.size, c.p, prots(), c.prots)
		}
	}
	for i, one := range s.Pages() {
		if one.Data != was[i].Data {
			t.Errorf("Protect has turned the bytes at %d", one.At)
		}
	}
}

// P5.3: what isn't there is told ahead of what may not be done.
func TestReadWriteErrors(t *testing.T) {
	s := space(t, 8)
	checkReserve(t, s, 1024, 5, 1024, api.OK)
	checkMap(t, s, 1024, 256, 0, "none", api.OK)
	checkMap(t, s, 1280, 256, 6, "both", api.OK)
	checkMap(t, s, 1536, 256, 4, "read", api.OK)
	checkMap(t, s, 1792, 256, 2, "write", api.OK) // 2048 isn't there
	was := stateOf(s)
	cases := []struct {
		at, size    uint64
		read, write api.Errno
	}{
		{1023, 1, api.ErrRange, api.ErrRange},
		{1023, 0, api.ErrRange, api.ErrRange},
		{1023, 2, api.ErrRange, api.ErrRange},
		{1024, 1, api.ErrProt, api.ErrProt},
		{1279, 1, api.ErrProt, api.ErrProt},
		{1279, 2, api.ErrProt, api.ErrProt},
		{1280, 256, api.OK, api.OK},
		{1280, 257, api.OK, api.ErrProt},
		{1535, 2, api.OK, api.ErrProt},
		{1536, 256, api.OK, api.ErrProt},
		{1791, 2, api.ErrProt, api.ErrProt},
		{1792, 256, api.ErrProt, api.OK},
		{1536, 257, api.ErrProt, api.ErrProt},
		{1280, 768, api.ErrProt, api.ErrProt},
		{1792, 257, api.ErrRange, api.ErrRange},
		{1024, 1025, api.ErrRange, api.ErrRange}, // the first page may do nothing, the last isn't there
		{1024, 1280, api.ErrRange, api.ErrRange},
		{2048, 1, api.ErrRange, api.ErrRange},
		{2048, 0, api.OK, api.OK},
		{2100, 0, api.OK, api.OK},
		{2303, 0, api.OK, api.OK},
		{2304, 0, api.OK, api.OK},
		{2305, 0, api.ErrRange, api.ErrRange},
		{2304, 1, api.ErrRange, api.ErrRange},
		{0, 0, api.ErrRange, api.ErrRange},
		{0, 1, api.ErrRange, api.ErrRange},
		{1280, 64*256 + 1, api.ErrRange, api.ErrRange},
		{math.MaxUint64, 0, api.ErrRange, api.ErrRange},
		{math.MaxUint64, 1, api.ErrRange, api.ErrRange},
		{math.MaxUint64, 2, api.ErrRange, api.ErrRange},
		{math.MaxUint64 - 100, 1500, api.ErrRange, api.ErrRange},
		{top + 1280, 1, api.ErrRange, api.ErrRange},
	}
	for _, c := range cases {
		b, e := s.Read(c.at, c.size)
		checkErr(t, "Read", e, c.read)
		if e == api.OK && uint64(len(b)) != c.size || e != api.OK && len(b) != 0 {
			t.Errorf("Read(%d, %d): %d bytes, %v", c.at, c.size, len(b), e)
		}
		one := s.Copy()
		checkErr(t, "Write", one.Write(c.at, bytes.Repeat([]byte{'w'}, int(c.size))), c.write)
		if (c.write != api.OK || c.size == 0) != stateOf(one).same(was) {
			t.Errorf("Write(%d, %d bytes): %v", c.at, c.size, c.write)
		}
	}
	for _, size := range []uint64{64*256 + 1, 1 << 40, math.MaxUint64 - 1280, math.MaxUint64 - 1279, math.MaxUint64} {
		checkRead(t, s, 1280, size, "", api.ErrRange)
	}
	checkErr(t, "Write", s.Write(1280, nil), api.OK)
	checkErr(t, "Write", s.Write(0, nil), api.ErrRange)
	if !stateOf(s).same(was) {
		t.Error("reading has turned something")
	}
}

// P5.3: bytes over the edges of pages, in the longest room.
func TestReadWrite(t *testing.T) {
	s := space(t, 64)
	checkReserve(t, s, 4096, 64, 4096, api.OK)
	checkMap(t, s, 4096, span, 6, "", api.OK)
	want := make([]byte, span)
	for i := range want {
		want[i] = byte(i * 7 / 3)
	}
	checkErr(t, "Write", s.Write(4096, want), api.OK)
	checkRead(t, s, 4096, span, string(want), api.OK)
	checkRead(t, s, 4096, span+1, "", api.ErrRange)
	checkErr(t, "Write", s.Write(4096, append(want, 0)), api.ErrRange)
	for _, from := range []uint64{0, 1, 100, 255, 256, 257, 511, 512, span - 700} {
		for _, size := range []uint64{0, 1, 2, 155, 156, 157, 255, 256, 257, 511, 512, 513, 700} {
			checkRead(t, s, 4096+from, size, string(want[from:from+size]), api.OK)
			fill := bytes.Repeat([]byte{byte(from) ^ 0x55}, int(size))
			checkErr(t, "Write", s.Write(4096+from, fill), api.OK)
			copy(want[from:], fill)
			checkRead(t, s, 4096, span, string(want), api.OK)
		}
	}
}

// P5.4
func TestLoadStore(t *testing.T) {
	s := space(t, 4)
	checkReserve(t, s, 1024, 3, 1024, api.OK)
	checkMap(t, s, 1024, 512, 6, "\x01\x02\x03\x04\x05\x06\x07\x08\x09", api.OK)
	for at, want := range map[uint64]uint64{1024: 0x0807060504030201, 1025: 0x0908070605040302, 1032: 9, 1033: 0} {
		if n, e := s.Load(at); n != want || e != api.OK {
			t.Errorf("Load(%d): %#x, %v", at, n, e)
		}
	}
	for _, at := range []uint64{1024, 1031, 1272, 1273, 1276, 1279, 1280, 1528} { // over the edge of a page, too
		for _, n := range []uint64{0x8877665544332211, math.MaxUint64, 0, 0xff, 1 << 63} {
			checkErr(t, "Store", s.Store(at, n), api.OK)
			if got, e := s.Load(at); got != n || e != api.OK {
				t.Errorf("Load(%d): %#x, %v, not %#x", at, got, e, n)
			}
			var b []byte
			for i := range 8 {
				b = append(b, byte(n>>(8*i)))
			}
			checkRead(t, s, at, 8, string(b), api.OK)
		}
	}
	checkWrite(t, s, 1300, "........", api.OK)
	checkErr(t, "Store", s.Store(1301, 0x4847464544434241), api.OK)
	checkRead(t, s, 1299, 11, "\x00.ABCDEFGH\x00", api.OK)
}

// P5.4: the errors of Read and Write.
func TestLoadStoreErrors(t *testing.T) {
	s := space(t, 4)
	checkReserve(t, s, 1024, 4, 1024, api.OK)
	checkMap(t, s, 1024, 256, 4, "\xff\xff\xff\xff\xff\xff\xff\xff", api.OK)
	checkMap(t, s, 1280, 256, 2, "", api.OK) // 1536 isn't there
	checkMap(t, s, 1792, 256, 6, "", api.OK)
	was := stateOf(s)
	cases := []struct {
		at          uint64
		load, store api.Errno
	}{
		{0, api.ErrRange, api.ErrRange},
		{1016, api.ErrRange, api.ErrRange},
		{1017, api.ErrRange, api.ErrRange},
		{1024, api.OK, api.ErrProt},
		{1272, api.OK, api.ErrProt},
		{1273, api.ErrProt, api.ErrProt},
		{1280, api.ErrProt, api.OK},
		{1528, api.ErrProt, api.OK},
		{1529, api.ErrRange, api.ErrRange},
		{1536, api.ErrRange, api.ErrRange},
		{1785, api.ErrRange, api.ErrRange},
		{1792, api.OK, api.OK},
		{2040, api.OK, api.OK},
		{2041, api.ErrRange, api.ErrRange},
		{2047, api.ErrRange, api.ErrRange},
		{2048, api.ErrRange, api.ErrRange},
		{math.MaxUint64, api.ErrRange, api.ErrRange},
		{math.MaxUint64 - 7, api.ErrRange, api.ErrRange},
	}
	for _, c := range cases {
		n, e := s.Load(c.at)
		checkErr(t, "Load", e, c.load)
		if e != api.OK && n != 0 {
			t.Errorf("Load(%d): %d beside %v", c.at, n, e)
		}
		one := s.Copy()
		checkErr(t, "Store", one.Store(c.at, 0x0101010101010101), c.store)
		if (c.store != api.OK) != stateOf(one).same(was) {
			t.Errorf("Store(%d): %v", c.at, c.store)
		}
	}
}

// P5.3, P5.6: rooms that touch one another have no byte in common, and no bytes lie in both.
func TestRoomsSideBySide(t *testing.T) {
	s := space(t, 6)
	checkReserve(t, s, 1024, 2, 1024, api.OK)
	checkReserve(t, s, 1536, 2, 1536, api.OK)
	checkReserve(t, s, 512, 2, 512, api.OK)
	checkMap(t, s, 1024, 512, 7, "", api.OK)
	checkMap(t, s, 1536, 512, 7, "", api.OK)
	checkRead(t, s, 1535, 2, "", api.ErrRange)
	checkWrite(t, s, 1535, "ab", api.ErrRange)
	checkProtect(t, s, 1280, 512, 0, api.ErrRange)
	checkMap(t, s, 768, 512, 7, "", api.ErrRange)
	checkMap(t, s, 768, 256, 7, "", api.OK)
	if _, e := s.Load(1529); e != api.ErrRange {
		t.Error(e)
	}
	checkErr(t, "Store", s.Store(1535, 1), api.ErrRange)
	checkErr(t, "Store", s.Store(1528, math.MaxUint64), api.OK)
	checkRead(t, s, 1536, 512, zeros(512), api.OK)
	checkErr(t, "Store", s.Store(1536, math.MaxUint64), api.OK)
	checkRead(t, s, 1024, 504, zeros(504), api.OK)
	checkRead(t, s, 1536, 0, "", api.OK) // the end of one, the beginning of the other
	checkWrite(t, s, 1536, "", api.OK)
	checkRelease(t, s, 1536, api.OK)
	checkRead(t, s, 1536, 0, "", api.OK) // still the end of one
	checkProtect(t, s, 1536, 0, 0, api.OK)
	checkRead(t, s, 1537, 0, "", api.ErrRange)
	checkRelease(t, s, 1024, api.OK)
	checkRead(t, s, 1536, 0, "", api.ErrRange)
	checkRead(t, s, 1024, 0, "", api.OK)
	checkRead(t, s, 768, 256, zeros(256), api.OK)
}

// P5.5: rooms and pages are told by where they begin, however they came.
func TestRegionsPages(t *testing.T) {
	s := space(t, 20)
	for _, r := range []struct {
		at    uint64
		pages int
	}{{8192, 3}, {512, 1}, {top - 512, 2}, {4096, 2}, {256, 1}, {2048, 4}} {
		checkReserve(t, s, r.at, r.pages, r.at, api.OK)
	}
	want := []vmem.Region{{At: 256, Pages: 1}, {At: 512, Pages: 1}, {At: 2048, Pages: 4}, {At: 4096, Pages: 2}, {At: 8192, Pages: 3}, {At: top - 512, Pages: 2}}
	checkRegions(t, s, want...)
	if len(s.Pages()) != 0 {
		t.Error("pages are there, though none was mapped")
	}
	checkMap(t, s, 8448, 1, 7, "C", api.OK)
	checkMap(t, s, top-256, 1, 0, "D", api.OK)
	checkMap(t, s, 2560, 300, 4, "B", api.OK)
	checkMap(t, s, 256, 1, 1, "A", api.OK)
	checkWrite(t, s, 8703, "Z", api.OK)
	pages := []vmem.Page{{At: 256, Prot: 1}, {At: 2560, Prot: 4}, {At: 2816, Prot: 4}, {At: 8448, Prot: 7}, {At: top - 256, Prot: 0}}
	pages[0].Data[0], pages[1].Data[0], pages[3].Data[0], pages[4].Data[0], pages[3].Data[255] = 'A', 'B', 'C', 'D', 'Z'
	if got := s.Pages(); !slices.Equal(got, pages) {
		t.Errorf("Pages: %v", got)
	}
	checkRegions(t, s, want...)
	checkRelease(t, s, 2048, api.OK)
	checkRegions(t, s, slices.Delete(want, 2, 3)...)
	if got := s.Pages(); !slices.Equal(got, slices.Delete(pages, 1, 3)) {
		t.Errorf("Pages: %v", got)
	}
}

// P5.5
func TestCopy(t *testing.T) {
	base := func() *vmem.Space {
		s := space(t, 10)
		checkReserve(t, s, 1024, 3, 1024, api.OK)
		checkReserve(t, s, 4096, 2, 4096, api.OK)
		checkMap(t, s, 1024, 300, 6, "abc", api.OK)
		checkMap(t, s, 4096, 1, 4, "x", api.OK)
		return s
	}
	turns := map[string]func(s *vmem.Space) api.Errno{
		"Reserve":     func(s *vmem.Space) api.Errno { _, e := s.Reserve(0, 1); return e },
		"Reserve mid": func(s *vmem.Space) api.Errno { _, e := s.Reserve(2048, 5); return e },
		"Map":         func(s *vmem.Space) api.Errno { return s.Map(1536, 1, 6, []byte("q")) },
		"Protect":     func(s *vmem.Space) api.Errno { return s.Protect(1024, 512, 7) },
		"Release":     func(s *vmem.Space) api.Errno { return s.Release(1024) },
		"Write":       func(s *vmem.Space) api.Errno { return s.Write(1026, []byte("zzz")) },
		"Store":       func(s *vmem.Space) api.Errno { return s.Store(1276, math.MaxUint64) },
	}
	for name, turn := range turns {
		for _, ofCopy := range []bool{true, false} {
			s := base()
			c := s.Copy()
			was := stateOf(s)
			if !stateOf(c).same(was) {
				t.Fatal("a copy isn't the same")
			}
			one, other := s, c
			if ofCopy {
				one, other = c, s
			}
			checkErr(t, name, turn(one), api.OK)
			if stateOf(one).same(was) {
				t.Errorf("%s has turned nothing", name)
			}
			if !stateOf(other).same(was) {
				t.Errorf("%s has turned the other, too", name)
			}
			checkErr(t, name, turn(other), api.OK)
			if !stateOf(other).same(stateOf(one)) {
				t.Errorf("%s does not the same with a copy", name)
			}
		}
	}
	// The budget is copied, and each has its own.
	s := base()
	c := s.Copy()
	checkReserve(t, c, 0, 6, 0, api.ErrBudget)
	checkReserve(t, c, 8192, 5, 8192, api.OK)
	checkReserve(t, c, 0, 1, 0, api.ErrBudget)
	checkReserve(t, s, 8192, 5, 8192, api.OK)
	checkReserve(t, c.Copy(), 0, 1, 0, api.ErrBudget)
	if e := space(t, 1).Copy(); e == nil || e.Used() != 0 || len(e.Regions()) != 0 || len(e.Pages()) != 0 {
		t.Error("a copy of nothing")
	}
}

// P5.2 to P5.5: nothing that is handed in is kept or changed, nothing that is answered is shared.
func TestOwnMemory(t *testing.T) {
	s := space(t, 4)
	checkReserve(t, s, 1024, 2, 1024, api.OK)
	data := []byte("mapped")
	checkErr(t, "Map", s.Map(1024, 300, 6, data), api.OK)
	copy(data, "......")
	checkRead(t, s, 1024, 6, "mapped", api.OK)
	data = []byte("written")
	checkErr(t, "Write", s.Write(1024, data), api.OK)
	if string(data) != "written" {
		t.Errorf("Write has changed what was handed in: %s", data)
	}
	copy(data, ".......")
	checkRead(t, s, 1024, 7, "written", api.OK)

	was := stateOf(s)
	one, e := s.Read(1024, 300)
	other, _ := s.Read(1024, 300)
	if e != api.OK || len(one) != 300 {
		t.Fatal(e)
	}
	clear(one[:cap(one)])
	if string(other[:7]) != "written" {
		t.Error("two answers of Read share memory")
	}
	regions, pages := s.Regions(), s.Pages()
	clear(regions[:cap(regions)])
	clear(pages[:cap(pages)])
	if !stateOf(s).same(was) {
		t.Error("what was answered is the space's own memory")
	}
}

// P5.6: rooms have no byte in common, and lie from 256 on below the top.
func TestRoomsLieApart(t *testing.T) {
	r := row(1)
	for range 30 {
		s := space(t, 1024)
		for range 300 {
			if regions := s.Regions(); len(regions) > 0 && r.Below(4) == 0 {
				checkRelease(t, s, regions[r.Below(len(regions))].At, api.OK)
			}
			_, e := s.Reserve(r.hint(), 1+r.Below(64))
			if e != api.OK && e != api.ErrBudget {
				t.Fatal(e)
			}
			end := uint64(256)
			for _, one := range s.Regions() {
				if one.At%256 != 0 || one.At < end || one.Pages < 1 || one.Pages > 64 {
					t.Fatalf("%v behind %d", one, end)
				}
				end = one.At + uint64(one.Pages)*256
			}
			if end > top || s.Used() > 1024 {
				t.Fatal(end, s.Used())
			}
		}
	}
}
