package maker_test

import (
	"fmt"
	"math"
	"slices"
	"strings"
	"testing"

	"messuage/api"
	"messuage/image"
	"messuage/maker"
)

// P17.2: the chapter's own example.
func TestExample(t *testing.T) {
	wrong(t, "machine 0", api.Spec{Machine: 0})
}

// P17.1, P17.2: a library of next to nothing, and one of all that there is.
func TestLeastAndMost(t *testing.T) {
	for _, machine := range machines() {
		says(t, "nothing", api.Spec{Machine: machine})
		says(t, "empty lists", api.Spec{Machine: machine, Needed: []string{}, Syms: []api.Sym{}, Rels: []api.Rel{}, Relr: []uint64{}, Data: []byte{}})
		says(t, "bare", bare(machine))
		says(t, "full", full(machine))
	}
}

// P17.1: there are two machines.
func TestMachine(t *testing.T) {
	for machine := range 1 << 16 {
		s := api.Spec{Machine: uint16(machine)}
		if right := machine == 62 || machine == 183; maker.Right(s) != right || (maker.DataAt(s) != 0) != right {
			t.Errorf("machine %d: %v, %d", machine, maker.Right(s), maker.DataAt(s))
		}
	}
	for _, machine := range []uint16{0, 1, 3, 40, 61, 63, 182, 184, 243, 62 << 8, math.MaxUint16} {
		wrong(t, fmt.Sprint("machine ", machine), api.Spec{Machine: machine})
		s := full(api.Intel)
		s.Machine = machine
		wrong(t, fmt.Sprint("all, machine ", machine), s)
	}
	s := full(api.Intel)
	s.Machine = api.Arm
	wrong(t, "the other machine's relocations", s)
}

// texts: texts, and whether they are plain.
func texts() map[string]bool {
	l := map[string]bool{
		"!": true, "~": true, "a/b": true, strings.Repeat("a", 63): true, strings.Repeat("a", 64): true, strings.Repeat("~", 64): true,
		strings.Repeat("a", 65): false, strings.Repeat("a", 1000): false, " ": false, "a b": false, "\x00": false, "a\x00": false, "\x00a": false,
		"\n": false, "\x1f": false, "\x7f": false, "\x80": false, "a\xff": false, "é": false, strings.Repeat("a", 63) + " ": false,
	}
	return l
}

// P17.1, P17.2: texts that must be plain, and those that mustn't be empty.
func TestTexts(t *testing.T) {
	for _, place := range []struct {
		what  string
		put   func(s *api.Spec, text string)
		empty bool // may it be?
	}{
		{"Soname", func(s *api.Spec, text string) { s.Soname = text }, true},
		{"Runpath", func(s *api.Spec, text string) { s.Runpath = text }, true},
		{"first Needed", func(s *api.Spec, text string) { s.Needed[0] = text }, false},
		{"last Needed", func(s *api.Spec, text string) { s.Needed[1] = text }, false},
		{"Name", func(s *api.Spec, text string) { s.Syms[0].Name = text }, false},
		{"Name of one that isn't Defined", func(s *api.Spec, text string) { s.Syms[1].Name = text }, false},
		{"Name of the last one", func(s *api.Spec, text string) { s.Syms[6].Name = text }, false},
		{"Ver", func(s *api.Spec, text string) { s.Syms[0].Ver = text }, true},
		{"Ver that is asked for", func(s *api.Spec, text string) { s.Syms[1].Ver = text }, true},
		{"Ver of a Local one", func(s *api.Spec, text string) { s.Syms[6].Ver = text }, true},
	} {
		for _, machine := range machines() {
			s := full(machine)
			place.put(&s, "")
			is(t, place.what+" empty", s, place.empty)
			for text, plain := range texts() {
				place.put(&s, text)
				is(t, fmt.Sprintf("%s %q", place.what, text), s, plain)
			}
		}
	}
}

// P17.2: texts that are alike, or the ends of one another, wherever they are said.
func TestAlike(t *testing.T) {
	for _, text := range []string{"a", "ba", "cba"} {
		for _, other := range []string{"a", "ba", "cba"} {
			s := full(api.Arm)
			s.Soname, s.Runpath, s.Needed = text, other, []string{text, other, text, text}
			for i := range s.Syms {
				s.Syms[i].Name = []string{text, other}[i%2]
				s.Syms[i].Ver = []string{text, text, other, "", other}[i%5]
			}
			says(t, text+" and "+other, s)
		}
	}
}

// P17.1: how many libraries may be needed.
func TestNeeded(t *testing.T) {
	for _, machine := range machines() {
		for _, many := range []int{1, 2, 15, 16, 17, 18, 1000} {
			s := full(machine)
			s.Needed = names(many, 64)
			is(t, fmt.Sprint(many, " are needed"), s, many <= 16)
			s.Needed = slices.Repeat([]string{"l"}, many)
			is(t, fmt.Sprint("one is needed so often: ", many), s, many <= 16)
		}
	}
}

// P17.1, P17.2: how many bytes the data may have.
func TestData(t *testing.T) {
	for _, machine := range machines() {
		for _, many := range []int{0, 1, 7, 8, 255, 256, 257, 4095, 4096, 4097, 4098, 1 << 20} {
			s := bare(machine)
			s.Data = data(many)
			is(t, fmt.Sprint("Data ", many), s, many <= 4096)
			s.Zeros = 4096
			is(t, fmt.Sprint("all Zeros, Data ", many), s, many <= 4096)
			s.Zeros = 0
			is(t, fmt.Sprint("no Zeros, Data ", many), s, many <= 4096)
		}
		for _, many := range []int{math.MinInt, math.MinInt + 1, -256, -2, -1, 0, 1, 255, 256, 257, 4095, 4096, 4097, 4098, 1 << 32, math.MaxInt} {
			for _, own := range []int{0, 300, 4096} {
				s := bare(machine)
				s.Data, s.Zeros = data(own), many
				is(t, fmt.Sprintf("Data %d, Zeros %d", own, many), s, many >= 0 && many <= 4096)
			}
		}
	}
	s := bare(api.Arm)
	s.Data = make([]byte, 300)
	says(t, "Data all 0", s)
}

// P17.1, P17.2: pages that are read-only in the end: whole ones of Data.
func TestRelro(t *testing.T) {
	for _, machine := range machines() {
		for _, own := range []int{0, 1, 255, 256, 257, 511, 512, 4095, 4096} {
			for _, pages := range []int{math.MinInt, -1, 0, 1, 2, 3, 15, 16, 17, 64, 1 << 24, math.MaxInt} {
				s := api.Spec{Machine: machine, Data: data(own), Zeros: 4096, Relro: pages}
				is(t, fmt.Sprintf("Data %d, Relro %d", own, pages), s, pages >= 0 && pages*256 <= own && pages <= 16)
			}
			s := api.Spec{Machine: machine, Data: data(own), Relro: own / 256}
			says(t, "all whole pages", s)
			s.Relro++
			wrong(t, "one more", s)
		}
	}
}

// P17.1, P17.2: how many functions begin and end a library.
func TestFunctions(t *testing.T) {
	for _, machine := range machines() {
		for _, s := range []api.Spec{{Machine: machine}, full(machine)} {
			for init := range 9 {
				for fini := range 9 {
					s.Init, s.Fini = init, fini
					says(t, fmt.Sprint(init, fini), s)
				}
			}
			for _, many := range []int{math.MinInt, -8, -1, 9, 10, 1 << 32, math.MaxInt} {
				s.Init, s.Fini = many, 0
				wrong(t, fmt.Sprint("Init ", many), s)
				s.Init, s.Fini = 8, many
				wrong(t, fmt.Sprint("Fini ", many), s)
			}
		}
	}
}

// P17.1, P17.2: how many symbols there may be.
func TestManySymbols(t *testing.T) {
	for _, machine := range machines() {
		for _, many := range []int{0, 1, 2, 3, 63, 64, 65, 254, 255, 256, 257, 1000} {
			for _, gnu := range []bool{false, true} {
				s := bare(machine)
				s.Gnu, s.Syms = gnu, owned(many, 4)
				is(t, fmt.Sprint(many, " symbols"), s, many <= mostSyms)
				for i := range s.Syms {
					if i%2 == 0 {
						s.Syms[i] = api.Sym{Name: s.Syms[i].Name, Bind: api.Weak}
					}
				}
				is(t, fmt.Sprint(many, " symbols, half of them not Defined"), s, many <= mostSyms)
				for i := range s.Syms {
					s.Syms[i].Name = "f"
				}
				is(t, fmt.Sprint(many, " symbols of one name"), s, many <= mostSyms)
			}
		}
	}
}

// P17.1, P17.2: what a symbol may be, if it is Defined.
func TestDefined(t *testing.T) {
	for _, machine := range machines() {
		for _, c := range []struct {
			own, zeros int
			value      uint64
			ok         bool
		}{
			{300, 60, 0, true}, {300, 60, 299, true}, {300, 60, 300, true}, {300, 60, 359, true}, {300, 60, 360, false}, {300, 60, 361, false},
			{300, 0, 299, true}, {300, 0, 300, false}, {0, 60, 59, true}, {0, 60, 60, false}, {0, 0, 0, false}, {0, 1, 0, true}, {1, 0, 0, true}, {1, 0, 1, false},
			{4096, 4096, 8191, true}, {4096, 4096, 8192, false}, {300, 60, 1 << 32, false}, {300, 60, 1 << 63, false}, {300, 60, huge, false}, {300, 60, huge - 255, false},
		} {
			for _, bind := range []int{api.Local, api.Global, api.Weak} {
				s := api.Spec{Machine: machine, Data: data(c.own), Zeros: c.zeros, Syms: []api.Sym{{Name: "f", Bind: bind, Defined: true, Value: c.value, Size: 1 << 40}}}
				is(t, fmt.Sprintf("%+v, binding %d", c, bind), s, c.ok)
			}
		}
		for _, hidden := range []bool{false, true} {
			for _, ver := range []string{"", "V"} {
				for _, bind := range []int{math.MinInt, -1, 0, 1, 2, 3, 4, 16, 256, 1 << 32, math.MaxInt} {
					s := bare(machine)
					s.Syms = []api.Sym{{Name: "f", Ver: ver, Hidden: hidden, Bind: bind, Defined: true, Size: huge}}
					is(t, fmt.Sprintf("%+v", s.Syms), s, bind >= 0 && bind <= 2)
				}
			}
		}
	}
}

// P17.1, P17.2: and if it isn't.
func TestAskedFor(t *testing.T) {
	for _, machine := range machines() {
		for _, c := range []struct {
			what string
			one  api.Sym
			ok   bool
			okIf bool // if something is needed
		}{
			{"Global", api.Sym{Bind: api.Global}, true, true},
			{"Weak", api.Sym{Bind: api.Weak}, true, true},
			{"with a Size", api.Sym{Bind: api.Weak, Size: huge}, true, true},
			{"Local", api.Sym{Bind: api.Local}, false, false},
			{"binding 3", api.Sym{Bind: 3}, false, false},
			{"binding -1", api.Sym{Bind: -1}, false, false},
			{"Value 1", api.Sym{Bind: api.Global, Value: 1}, false, false},
			{"a great Value", api.Sym{Bind: api.Global, Value: huge}, false, false},
			{"Hidden", api.Sym{Bind: api.Global, Hidden: true}, false, false},
			{"Hidden, with a version", api.Sym{Bind: api.Global, Hidden: true, Ver: "V"}, false, false},
			{"with a version", api.Sym{Bind: api.Global, Ver: "V"}, false, true},
			{"Weak, with a version", api.Sym{Bind: api.Weak, Ver: "V"}, false, true},
			{"Local, with a version", api.Sym{Bind: api.Local, Ver: "V"}, false, false},
		} {
			s := bare(machine)
			c.one.Name = "f"
			s.Syms = []api.Sym{c.one}
			is(t, c.what, s, c.ok)
			s.Syms = append(owned(3, 2), c.one)
			is(t, c.what+", the last one", s, c.ok)
			s.Needed = []string{"l"}
			is(t, c.what+", something needed", s, c.okIf)
			s.Soname = "x"
			s.Needed = append(s.Needed, "m")
			is(t, c.what+", more needed", s, c.okIf)
		}
	}
}

// versioned: symbols with so many versions of the library's own, and so many that it asks for, of the same names.
func versioned(own, asked int) []api.Sym {
	var l []api.Sym
	for i, ver := range names(max(own, asked), 3) {
		if i < own {
			l = append(l, api.Sym{Name: "f", Ver: ver, Bind: api.Global, Defined: true, Hidden: i%2 == 1})
		}
		if i < asked {
			l = append(l, api.Sym{Name: "f", Ver: ver, Bind: api.Weak})
		}
	}
	return l
}

// P17.1, P17.2: how many versions there may be. One name is two of them, if a symbol that has it is Defined and another one isn't.
func TestVersions(t *testing.T) {
	for _, machine := range machines() {
		for own := range 34 {
			for asked := range 34 {
				if own+asked < 30 && own+asked > 3 {
					continue
				}
				s := bare(machine)
				s.Needed, s.Syms = []string{"l", "m"}, versioned(own, asked)
				is(t, fmt.Sprint(own, " own versions, asked ones: ", asked), s, own+asked <= 31)
			}
		}
		s := bare(machine)
		s.Needed = []string{"l"}
		s.Syms = slices.Concat(versioned(16, 15), versioned(15, 15), owned(3, 2), versioned(16, 15), versioned(1, 1))
		says(t, "each often", s)
		s.Syms = append(s.Syms, api.Sym{Name: "g", Ver: "W", Bind: api.Local, Defined: true})
		wrong(t, "one more, of a Local one", s)
		s.Syms = slices.Concat(versioned(31, 0), []api.Sym{{Name: "g", Ver: "n30", Bind: api.Weak}})
		wrong(t, "one more of the same name", s)
		s.Syms[31].Defined = true
		says(t, "the same", s)
	}
}

// P17.2: the library has versions of its own just if a Defined symbol has one.
func TestOwnVersions(t *testing.T) {
	for _, c := range []struct {
		one api.Sym
		own bool
	}{
		{api.Sym{Bind: api.Global, Defined: true}, false},
		{api.Sym{Bind: api.Global, Defined: true, Hidden: true}, false},
		{api.Sym{Bind: api.Local, Defined: true, Hidden: true}, false},
		{api.Sym{Bind: api.Global}, false},
		{api.Sym{Bind: api.Global, Ver: "V"}, false},
		{api.Sym{Bind: api.Global, Defined: true, Ver: "V"}, true},
		{api.Sym{Bind: api.Global, Defined: true, Ver: "V", Hidden: true}, true},
		{api.Sym{Bind: api.Local, Defined: true, Ver: "V"}, true},
		{api.Sym{Bind: api.Local, Defined: true, Ver: "V", Hidden: true}, true},
	} {
		for _, machine := range machines() {
			for _, gnu := range []bool{false, true} {
				s := bare(machine)
				c.one.Name = "f"
				s.Needed, s.Gnu, s.Syms = []string{"l"}, gnu, []api.Sym{{Name: "g", Bind: api.Global}, c.one, {Name: "f", Bind: api.Weak}}
				says(t, fmt.Sprintf("%+v", c), s)
				if l, _, _ := made(t, "again", s); image.Versions(l) != c.own {
					t.Errorf("%+v", c)
				}
			}
		}
	}
}

// placed: a Spec of data of so many bytes, with relocations at these places, and places of Relr.
func placed(machine uint16, own, zeros int, at []uint64, rows ...uint64) api.Spec {
	s := api.Spec{Machine: machine, Data: data(own), Zeros: zeros, Rela: true, Relr: rows}
	for _, place := range at {
		s.Rels = append(s.Rels, api.Rel{At: place, Type: relative(machine), Add: 5, Has: true})
	}
	return s
}

// steps: so many places from one on, so far apart.
func steps(from uint64, many int, step uint64) []uint64 {
	var l []uint64
	for i := range uint64(many) {
		l = append(l, from+i*step)
	}
	return l
}

// P17.1, P17.2: how many places there may be, of both lists together.
func TestManyPlaces(t *testing.T) {
	for _, machine := range machines() {
		for _, c := range [][2]int{{512, 0}, {0, 512}, {256, 256}, {511, 1}, {1, 511}, {513, 0}, {0, 513}, {257, 256}, {256, 257}, {512, 1}, {1, 512}, {512, 512}, {1000, 0}} {
			for bits := range 8 {
				s := placed(machine, 4096, 4096, steps(0, c[0], 8), steps(8*uint64(c[0]), c[1], 8)...)
				choices(&s, bits)
				ok := c[0]+c[1] <= mostPlaces
				if maker.Right(s) != ok {
					t.Errorf("places %v: %v", c, maker.Right(s))
				}
				// All of them in a plain list that says what is added have no room.
				if s.Zeros = 0; !ok || s.Packed || !s.Rela {
					is(t, fmt.Sprint("places ", c), s, ok)
				}
			}
		}
	}
	s := placed(api.Arm, 4096, 0, steps(0, 512, 8))
	s.Rels = append(s.Rels, s.Rels...)
	wrong(t, "each twice", s)
}

// P17.1, P17.2: the types of each machine, but of the kind None.
func TestTypes(t *testing.T) {
	for _, machine := range machines() {
		l := append([]uint32{1 << 8, 1 << 16, 1<<16 + 8, 1 << 31, 1<<32 - 1}, types(api.Intel)...)
		for kind := range uint32(1100) {
			l = append(l, kind)
		}
		for _, kind := range l {
			ok := slices.Contains(types(machine), kind)
			s := placed(machine, 300, 60, []uint64{0, 20, 300})
			s.Rels[1].Type = kind
			if maker.Right(s) != ok {
				t.Errorf("machine %d, type %d: %v", machine, kind, maker.Right(s))
			}
			if ok || kind < 10 {
				is(t, fmt.Sprintf("machine %d, type %d", machine, kind), s, ok)
			}
			s.Rela = false
			for i := range s.Rels {
				s.Rels[i].Has, s.Rels[i].Add = false, 0
			}
			if maker.Right(s) != ok {
				t.Errorf("without what is added, machine %d, type %d: %v", machine, kind, maker.Right(s))
			}
		}
		s := placed(machine, 300, 60, nil)
		s.Rels = []api.Rel{{Has: true}}
		wrong(t, "None alone", s)
	}
}

// P17.1, P17.2: the numbers of symbols: the empty one's, and theirs.
func TestSym(t *testing.T) {
	for _, machine := range machines() {
		for _, many := range []int{0, 1, 2, 255} {
			for _, kind := range types(machine) {
				for _, sym := range []uint32{0, 1, 2, 3, 254, 255, 256, 257, 1 << 16, 1 << 31, 1<<32 - 1} {
					s := placed(machine, 300, 60, []uint64{0, 20, 300})
					s.Syms = owned(many, 3)
					s.Rels[1].Type, s.Rels[1].Sym = kind, sym
					is(t, fmt.Sprintf("%d symbols, type %d of %d", many, kind, sym), s, int64(sym) <= int64(many))
				}
			}
		}
	}
}

// P17.1: what is added is said by all relocations, or by none, as Rela says; without, nothing is.
func TestHas(t *testing.T) {
	for _, machine := range machines() {
		for _, kind := range types(machine) {
			for _, packed := range []bool{false, true} {
				for _, rela := range []bool{false, true} {
					for _, has := range []bool{false, true} {
						for _, add := range []int64{0, 1, -1, 256, math.MaxInt64, math.MinInt64} {
							s := placed(machine, 300, 60, []uint64{40, 20, 300})
							s.Rela, s.Packed = rela, packed
							for i := range s.Rels {
								s.Rels[i] = api.Rel{At: s.Rels[i].At, Type: kind, Has: rela}
							}
							s.Rels[2].Has, s.Rels[2].Add = has, add
							is(t, fmt.Sprintf("Rela %v, Has %v, Add %d", rela, has, add), s, has == rela && (has || add == 0))
						}
					}
				}
			}
		}
		for _, rela := range []bool{false, true} {
			s := placed(machine, 300, 60, nil, 8, 16)
			s.Rela = rela
			says(t, "just places of Relr", s)
		}
	}
}

// P17.2: what is added to a Relative one is as much more as the data lie further on, going round; to others it isn't.
func TestAdd(t *testing.T) {
	for _, machine := range machines() {
		for _, packed := range []bool{false, true} {
			adds := []int64{0, -1, 1, -512, math.MaxInt64, math.MaxInt64 - 256, math.MinInt64, math.MinInt64 + 1, 1 << 32}
			for _, kind := range types(machine) {
				s := placed(machine, 300, 60, steps(4, len(adds), 8))
				s.Packed = packed
				for i, add := range adds {
					s.Rels[i].Type, s.Rels[i].Add = kind, add
				}
				says(t, fmt.Sprint("type ", kind), s)
				l, at, _ := made(t, "again", s)
				for i, add := range adds {
					want := add
					if kind == relative(machine) {
						want = int64(uint64(add) + at)
					}
					if l.Rels[i].Add != want {
						t.Errorf("type %d adds %d: %d, not %d", kind, add, l.Rels[i].Add, want)
					}
				}
			}
		}
	}
}

// P17.1, P17.2: places of Relr are multiples of 8 that rise.
func TestRelr(t *testing.T) {
	for _, c := range []struct {
		rows []uint64
		ok   bool
	}{
		{nil, true}, {[]uint64{0}, true}, {[]uint64{8}, true}, {[]uint64{0, 8}, true}, {[]uint64{0, 8, 16, 1000, 1008}, true}, {[]uint64{0, 512}, true}, {[]uint64{0, 504}, true}, {[]uint64{0, 520, 1040, 1200}, true},
		{[]uint64{1}, false}, {[]uint64{2}, false}, {[]uint64{4}, false}, {[]uint64{7}, false}, {[]uint64{9}, false}, {[]uint64{12}, false}, {[]uint64{0, 12}, false}, {[]uint64{4, 12}, false}, {[]uint64{0, 12, 24}, false}, {[]uint64{0, 8, 20}, false},
		{[]uint64{8, 8}, false}, {[]uint64{0, 0}, false}, {[]uint64{8, 0}, false}, {[]uint64{16, 8}, false}, {[]uint64{0, 16, 8}, false}, {[]uint64{0, 8, 0}, false}, {[]uint64{24, 8, 16}, false}, {[]uint64{0, 8, 8}, false},
	} {
		for _, machine := range machines() {
			for _, packed := range []bool{false, true} {
				s := placed(machine, 1000, 300, []uint64{1100, 1081, 1111}, c.rows...)
				s.Packed = packed
				is(t, fmt.Sprint(c.rows), s, c.ok)
				s.Rels = nil
				is(t, fmt.Sprint(c.rows, " alone"), s, c.ok)
			}
		}
	}
	says(t, "all that may be", placed(api.Intel, 4096, 4096, nil, steps(0, 512, 16)...))
}

// P17.1, P17.2: all of a place's eight bytes lie in Data and Zeros.
func TestPlaces(t *testing.T) {
	for _, machine := range machines() {
		for _, c := range []struct {
			own, zeros int
			at         uint64
			ok         bool
		}{
			{300, 60, 292, true}, {300, 60, 293, true}, {300, 60, 299, true}, {300, 60, 300, true}, {300, 60, 351, true}, {300, 60, 352, true}, {300, 60, 353, false}, {300, 60, 359, false}, {300, 60, 360, false},
			{300, 0, 292, true}, {300, 0, 293, false}, {300, 0, 300, false}, {0, 60, 0, true}, {0, 60, 52, true}, {0, 60, 53, false},
			{0, 0, 0, false}, {7, 0, 0, false}, {0, 7, 0, false}, {3, 4, 0, false}, {4, 4, 0, true}, {8, 0, 0, true}, {0, 8, 0, true}, {8, 0, 1, false},
			{4096, 4096, 8184, true}, {4096, 4096, 8185, false}, {4096, 4096, 8192, false},
			{300, 60, 1 << 32, false}, {300, 60, 1 << 63, false}, {300, 60, huge, false}, {300, 60, huge - 1, false}, {300, 60, huge - 7, false}, {300, 60, huge - 8, false},
		} {
			is(t, fmt.Sprintf("Rels %+v", c), placed(machine, c.own, c.zeros, []uint64{c.at}), c.ok)
			if c.at%8 == 0 {
				is(t, fmt.Sprintf("Relr %+v", c), placed(machine, c.own, c.zeros, nil, c.at), c.ok)
			}
			if c.own == 300 {
				is(t, fmt.Sprintf("among others, Rels %+v", c), placed(machine, c.own, c.zeros, []uint64{16, c.at, 0}, 24), c.ok)
			}
		}
		says(t, "the last places of Relr", placed(machine, 300, 60, nil, 344, 352))
		says(t, "the last place, bytes behind it", placed(machine, 300, 67, nil, 352))
		wrong(t, "one further on", placed(machine, 300, 67, nil, 360))
	}
}

// P17.1, P17.2: no two places have a byte in common.
func TestCommon(t *testing.T) {
	for _, machine := range machines() {
		for far := uint64(0); far <= 20; far++ {
			for _, at := range []uint64{0, 3, 16, 290} {
				is(t, fmt.Sprint("Rels ", at, at+far), placed(machine, 300, 60, []uint64{at, at + far}), far >= 8)
				is(t, fmt.Sprint("Rels ", at+far, at), placed(machine, 300, 60, []uint64{at + far, at}), far >= 8)
				is(t, fmt.Sprint("Rels, others between, ", at, at+far), placed(machine, 300, 60, []uint64{at, 100, 332, 200, at + far, 120}), far >= 8)
			}
			for _, row := range []uint64{0, 24, 304} {
				is(t, fmt.Sprint("Relr ", row, " Rels ", row+far), placed(machine, 300, 60, []uint64{row + far}, row), far >= 8)
				is(t, fmt.Sprint("among others, Relr ", row, " Rels ", row+far), placed(machine, 300, 60, []uint64{100, row + far, 120}, row, 336, 352), far >= 8)
				if far <= row {
					is(t, fmt.Sprint("Relr ", row, " Rels ", row-far), placed(machine, 300, 60, []uint64{row - far}, row), far >= 8)
				}
			}
		}
		says(t, "side by side", placed(machine, 300, 60, []uint64{0, 24, 8, 40}, 16, 32, 48))
		wrong(t, "one of many twice", placed(machine, 4096, 4096, append(steps(0, 510, 16), 16*300+7)))
	}
}

// choices: all that a Spec says by yes or no, as the bits of a number say it.
func choices(s *api.Spec, bits int) {
	for i, to := range []*bool{&s.Rela, &s.Gnu, &s.Packed, &s.Symbolic, &s.Global, &s.Nodelete} {
		*to = bits>>i%2 == 1
	}
	for i := range s.Rels {
		s.Rels[i].Has = s.Rela
		if !s.Rela {
			s.Rels[i].Add = 0
		}
	}
}

// P17.2: all choices by and with each other, with all that a library can have and without some of it.
func TestChoices(t *testing.T) {
	for _, machine := range machines() {
		for bits := range 64 {
			for without := range 128 {
				s := full(machine)
				for i, leave := range []func(){
					func() { s.Rels = nil },
					func() { s.Relr = nil },
					func() { s.Syms, s.Rels = nil, slices.DeleteFunc(s.Rels, func(r api.Rel) bool { return r.Sym > 0 }) },
					func() { s.Relro = 0 },
					func() {
						for i := range s.Syms {
							s.Syms[i].Ver = ""
						}
					},
					func() { s.Init, s.Soname = 0, "" },
					func() { s.Fini, s.Runpath = 0, "" },
				} {
					if without>>i%2 == 1 {
						leave()
					}
				}
				choices(&s, bits)
				says(t, fmt.Sprintf("choices %b without %b", bits, without), s)
			}
		}
	}
}

// P17.2: which forms tell the relocations.
func TestForms(t *testing.T) {
	for _, machine := range machines() {
		for bits := range 8 {
			for lists := range 4 {
				s := full(machine)
				if lists&1 == 0 {
					s.Rels = nil
				}
				if lists&2 == 0 {
					s.Relr = nil
				}
				choices(&s, bits)
				l, _, _ := made(t, "a form", s)
				packed := s.Packed && len(s.Rels) > 0
				plain := !s.Packed && len(s.Rels) > 0
				d := l.Dyn
				if d.Packed.Has != packed || d.PackedRela != (packed && s.Rela) || d.Rela.Has != (plain && s.Rela) || d.Rel.Has != (plain && !s.Rela) || d.Relr.Has != (len(s.Relr) > 0) || d.Plt.Has {
					t.Errorf("choices %b, lists %b: %+v", bits, lists, d)
				}
			}
		}
	}
}
