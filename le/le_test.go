package le_test

import (
	"bytes"
	"encoding/binary"
	"math"
	"strings"
	"testing"

	"messuage/api"
	"messuage/le"
)

// beyond: places that are none of a row of so many bytes.
func beyond(many int) []uint64 {
	n := uint64(many)
	return []uint64{n + 1, n + 2, n + 8, 1 << 31, 1 << 32, 1 << 63, math.MaxUint64 - 8, math.MaxUint64 - 7, math.MaxUint64 - 3, math.MaxUint64 - 1, math.MaxUint64}
}

// checkNumbers holds the numbers at a place against those that stand there.
func checkNumbers(t *testing.T, b []byte, at uint64) {
	t.Helper()
	var want16 uint16
	var want32 uint32
	var want64 uint64
	left := uint64(0)
	if at < uint64(len(b)) {
		left = uint64(len(b)) - at
	}
	errOf := func(size uint64) api.Errno {
		if left < size {
			return api.ErrShort
		}
		return api.OK
	}
	if left >= 2 {
		want16 = binary.LittleEndian.Uint16(b[at:])
	}
	if left >= 4 {
		want32 = binary.LittleEndian.Uint32(b[at:])
	}
	if left >= 8 {
		want64 = binary.LittleEndian.Uint64(b[at:])
	}
	if n, e := le.U16(b, at); n != want16 || e != errOf(2) {
		t.Errorf("U16(%v, %d): %d, %v", b, at, n, e)
	}
	if n, e := le.U32(b, at); n != want32 || e != errOf(4) {
		t.Errorf("U32(%v, %d): %d, %v", b, at, n, e)
	}
	if n, e := le.U64(b, at); n != want64 || e != errOf(8) {
		t.Errorf("U64(%v, %d): %d, %v", b, at, n, e)
	}
}

// P2.1
func TestNumbers(t *testing.T) {
	if n, e := le.U16([]byte{2, 1}, 0); n != 258 || e != api.OK {
		t.Error(n, e)
	}
	if n, e := le.U32([]byte{9, 4, 3, 2, 1}, 1); n != 0x01020304 || e != api.OK {
		t.Error(n, e)
	}
	if n, e := le.U64([]byte{8, 7, 6, 5, 4, 3, 2, 0x81}, 0); n != 0x8102030405060708 || e != api.OK {
		t.Error(n, e)
	}
	whole := []byte{0x81, 2, 0xff, 4, 0x95, 6, 7, 0xf8, 9, 10, 0xab, 12}
	for many := range len(whole) + 1 {
		b := whole[:many] // what lies behind is there, but not to be read
		for at := range uint64(many + 1) {
			checkNumbers(t, b, at)
		}
		for _, at := range beyond(many) {
			checkNumbers(t, b, at)
		}
	}
	checkNumbers(t, nil, 0)
	checkNumbers(t, nil, math.MaxUint64)
}

// P2.1
func TestPart(t *testing.T) {
	whole := []byte{1, 2, 3, 4, 5, 6}
	for many := range len(whole) + 1 {
		b := whole[:many]
		for at := range uint64(many + 1) {
			left := uint64(many) - at
			for size := range left + 1 {
				got, e := le.Part(b, at, size)
				if e != api.OK || !bytes.Equal(got, b[at:at+size]) {
					t.Errorf("Part(%v, %d, %d): %v, %v", b, at, size, got, e)
				}
			}
			for _, size := range beyond(int(left)) {
				if got, e := le.Part(b, at, size); e != api.ErrShort || len(got) != 0 {
					t.Errorf("Part(%v, %d, %d): %v, %v", b, at, size, got, e)
				}
			}
		}
		for _, at := range beyond(many) {
			for _, size := range []uint64{0, 1, 8, math.MaxUint64 - at + 1, math.MaxUint64} {
				if got, e := le.Part(b, at, size); e != api.ErrShort || len(got) != 0 {
					t.Errorf("Part(%v, %d, %d): %v, %v", b, at, size, got, e)
				}
			}
		}
	}
	if got, e := le.Part(nil, 0, 0); e != api.OK || len(got) != 0 {
		t.Error(got, e)
	}
	if got, e := le.Part(nil, 0, 1); e != api.ErrShort || len(got) != 0 {
		t.Error(got, e)
	}
}

// P2.4: what is answered and what was handed in have no byte together.
func TestPartIsNew(t *testing.T) {
	b := []byte{1, 2, 3, 4}
	got, _ := le.Part(b, 1, 2)
	got[0] = 99
	_ = append(got, 98)
	if !bytes.Equal(b, []byte{1, 2, 3, 4}) {
		t.Errorf("what was handed in is %v", b)
	}
	b[2] = 97
	if got[1] != 3 {
		t.Errorf("what was answered is %v", got)
	}
	whole, _ := le.Part(b, 0, 4)
	whole[0] = 96
	if b[0] != 1 {
		t.Errorf("what was handed in is %v", b)
	}
}

// P2.2
func TestPlain(t *testing.T) {
	for c := range 256 {
		want := c >= 33 && c <= 126
		one := string([]byte{byte(c)})
		for _, s := range []string{one, "a" + one, one + "z", "a" + one + "z", strings.Repeat("x", 63) + one} {
			if le.Plain(s) != want {
				t.Errorf("Plain(%q): %v", s, !want)
			}
		}
	}
	for s, want := range map[string]bool{
		"":                             true,
		"libc.so.6":                    true,
		"!~":                           true,
		strings.Repeat("x", 63):        true,
		strings.Repeat("x", 64):        true,
		strings.Repeat("x", 65):        false,
		strings.Repeat("x", 4096):      false,
		strings.Repeat("x", 64) + " ":  false,
		"a b":                          false,
		"\u00e4":                       false, // two bytes above 127
		"a\u0141b":                     false, // its lowest eight bits are those of A
		"\U00010041":                   false,
		"\xc3":                         false,
		"\xe2\x82":                     false,
		strings.Repeat("\u00e4", 32):   false,
		strings.Repeat("\u00e4", 64):   false,
		"a\x00":                        false,
		strings.Repeat("x", 60) + "\t": false,
	} {
		if le.Plain(s) != want {
			t.Errorf("Plain(%q): %v", s, !want)
		}
	}
}

// P2.2
func TestText(t *testing.T) {
	longest := strings.Repeat("n", 64)
	cases := []struct {
		b    string
		at   uint64
		want string
		err  api.Errno
	}{
		{"AB\x00", 0, "AB", api.OK},
		{"AB\x00", 1, "B", api.OK},
		{"AB\x00", 2, "", api.OK},
		{"AB\x00", 3, "", api.ErrShort},
		{"AB\x00", 4, "", api.ErrShort},
		{"AB\x00", math.MaxUint64, "", api.ErrShort},
		{"AB\x00", 1 << 63, "", api.ErrShort},
		{"AB\x00", 1 << 32, "", api.ErrShort},
		{"AB", 0, "", api.ErrShort},
		{"AB", 2, "", api.ErrShort},
		{"", 0, "", api.ErrShort},
		{"\x00AB", 0, "", api.OK},
		{"\x00AB", 1, "", api.ErrShort},
		{"AB\x00CD\x00", 0, "AB", api.OK},
		{"AB\x00CD\x00", 3, "CD", api.OK},
		{"A \x00", 0, "", api.ErrText},
		{" A\x00", 0, "", api.ErrText},
		{" A\x00", 1, "A", api.OK}, // what stands ahead of the place isn't looked at
		{"A\x00 \x00", 0, "A", api.OK},
		{"A ", 0, "", api.ErrShort}, // ErrShort is named ahead of ErrText
		{"A\x7f\x00", 0, "", api.ErrText},
		{"A\xff\x00", 0, "", api.ErrText},
		{"\u0141\x00", 0, "", api.ErrText},
		{longest + "\x00", 0, longest, api.OK},
		{"n" + longest + "\x00", 0, "", api.ErrText},
		{"n" + longest + "\x00", 1, longest, api.OK},
		{"n" + longest, 0, "", api.ErrShort},
	}
	for _, c := range cases {
		if s, e := le.Text([]byte(c.b), c.at); s != c.want || e != c.err {
			t.Errorf("Text(%q, %d): %q, %v", c.b, c.at, s, e)
		}
	}
	if s, e := le.Text(nil, 0); s != "" || e != api.ErrShort {
		t.Error(s, e)
	}
	if s, e := le.Text([]byte("AB\x00")[:2], 0); s != "" || e != api.ErrShort {
		t.Error("a byte behind the length was read", s, e)
	}
}

// P2.2: a text stays when the bytes that it was read from are changed.
func TestTextIsNew(t *testing.T) {
	b := []byte("AB\x00")
	s, _ := le.Text(b, 0)
	b[0] = 'Z'
	if s != "AB" {
		t.Error(s)
	}
}

// P2.3: the chapter's example.
func TestBufExample(t *testing.T) {
	f := le.New()
	f.Put16(258)
	f.Put32(1)
	f.To(8)
	if got := f.Bytes(); !bytes.Equal(got, []byte{2, 1, 1, 0, 0, 0, 0, 0}) || f.Len() != 8 {
		t.Error(got, f.Len())
	}
}

// P2.3
func TestPut(t *testing.T) {
	f := le.New()
	if f.Len() != 0 || len(f.Bytes()) != 0 {
		t.Error(f.Len(), f.Bytes())
	}
	f.Put16(0xf1e2)
	f.Put32(0xd3c4b5a6)
	f.Put64(0x9788796a5b4c3d2e)
	f.Raw([]byte{1, 0, 255})
	f.Raw(nil)
	f.Raw([]byte{})
	f.Put16(0)
	want := []byte{0xe2, 0xf1, 0xa6, 0xb5, 0xc4, 0xd3, 0x2e, 0x3d, 0x4c, 0x5b, 0x6a, 0x79, 0x88, 0x97, 1, 0, 255, 0, 0}
	if got := f.Bytes(); !bytes.Equal(got, want) || f.Len() != len(want) {
		t.Error(got, f.Len())
	}
}

// P2.3
func TestZeros(t *testing.T) {
	for many, want := range map[int]int{0: 0, 1: 1, 7: 7, 300: 300, api.MaxFile - 1: api.MaxFile - 1, api.MaxFile: api.MaxFile, api.MaxFile + 1: api.MaxFile, math.MaxInt: api.MaxFile, -1: 0, math.MinInt: 0} {
		f := le.New()
		f.Raw([]byte{9})
		f.Zeros(many)
		if got := f.Bytes(); f.Len() != 1+want || !bytes.Equal(got, append([]byte{9}, make([]byte, want)...)) {
			t.Errorf("Zeros(%d): %d bytes", many, f.Len())
		}
	}
	f := le.New() // the bound is one of each call, not of all that is laid down
	f.Zeros(api.MaxFile)
	f.Zeros(api.MaxFile)
	if f.Len() != 2*api.MaxFile {
		t.Error(f.Len())
	}
}

// P2.3
func TestTo(t *testing.T) {
	for many := range 40 {
		for unit := 1; unit <= 64; unit *= 2 {
			f := le.New()
			f.Raw(bytes.Repeat([]byte{9}, many))
			f.To(unit)
			got := f.Bytes()
			if len(got)%unit != 0 || len(got) < many || len(got)-many >= unit {
				t.Errorf("%d, To(%d): %d", many, unit, len(got))
			}
			if !bytes.Equal(got, append(bytes.Repeat([]byte{9}, many), make([]byte, len(got)-many)...)) {
				t.Errorf("%d, To(%d): %v", many, unit, got)
			}
		}
	}
}

// P2.3: the greatest unit, and what is none.
func TestToAtTheBound(t *testing.T) {
	for unit, want := range map[int]int{api.MaxFile: api.MaxFile, api.MaxFile / 2: api.MaxFile / 2, 2 * api.MaxFile: 5, 1 << 30: 5, 0: 5, -1: 5, -8: 5, 3: 5, 6: 5, 12: 5, api.MaxFile - 1: 5, api.MaxFile + 1: 5, math.MaxInt: 5, math.MinInt: 5} {
		f := le.New()
		f.Raw([]byte{1, 2, 3, 4, 5})
		f.To(unit)
		if got := f.Bytes(); len(got) != want || !bytes.HasPrefix(got, []byte{1, 2, 3, 4, 5}) || bytes.Count(got, []byte{0}) != want-5 {
			t.Errorf("To(%d): %d bytes", unit, len(got))
		}
	}
	f := le.New()
	f.To(8)
	if f.Len() != 0 {
		t.Error("no bytes are a multiple already", f.Len())
	}
}

// P2.3
func TestSet64(t *testing.T) {
	const n = 0x8877665544332211
	for many := range 20 {
		before := bytes.Repeat([]byte{9}, many)
		for _, at := range []int{0, 1, 2, 7, 8, many - 9, many - 8, many - 7, many - 1, many, many + 1, -1, -8, math.MinInt, math.MaxInt, math.MaxInt - 7} {
			f := le.New()
			f.Raw(before)
			there := at >= 0 && at <= many-8
			if got := f.Set64(at, n); got != there {
				t.Errorf("%d bytes, Set64(%d): %v", many, at, got)
			}
			want := bytes.Clone(before)
			if there {
				binary.LittleEndian.PutUint64(want[at:], n)
			}
			if !bytes.Equal(f.Bytes(), want) || f.Len() != many {
				t.Errorf("%d bytes, Set64(%d): %v", many, at, f.Bytes())
			}
		}
	}
}

// P2.4: what is put is read at its place.
func TestWhatIsPutIsRead(t *testing.T) {
	for _, n := range []uint64{0, 1, 255, 256, 0x1234, 0x89abcdef, 1<<63 + 5, math.MaxUint64, 0x0123456789abcdef} {
		for ahead := range 9 {
			f := le.New()
			f.Zeros(ahead)
			at16 := uint64(f.Len())
			f.Put16(uint16(n))
			at32 := uint64(f.Len())
			f.Put32(uint32(n))
			at64 := uint64(f.Len())
			f.Put64(n)
			atRaw := uint64(f.Len())
			f.Raw([]byte("name\x00"))
			f.To(8)
			atSet := f.Len()
			f.Zeros(8)
			if !f.Set64(atSet, ^n) {
				t.Error("Set64")
			}
			b := f.Bytes()
			if got, e := le.U16(b, at16); got != uint16(n) || e != api.OK {
				t.Error(got, e)
			}
			if got, e := le.U32(b, at32); got != uint32(n) || e != api.OK {
				t.Error(got, e)
			}
			if got, e := le.U64(b, at64); got != n || e != api.OK {
				t.Error(got, e)
			}
			if got, e := le.Text(b, atRaw); got != "name" || e != api.OK {
				t.Error(got, e)
			}
			if got, e := le.Part(b, atRaw, 5); string(got) != "name\x00" || e != api.OK {
				t.Error(got, e)
			}
			if got, e := le.U64(b, uint64(atSet)); got != ^n || e != api.OK {
				t.Error(got, e)
			}
		}
	}
}

// P2.4: bytes that are answered are new memory, and what was handed in isn't kept.
func TestBytesAreNew(t *testing.T) {
	raw := []byte{1, 2, 3, 4, 5, 6, 7, 8}
	f := le.New()
	f.Raw(raw)
	raw[0] = 99
	first := f.Bytes()
	if first[0] != 1 {
		t.Error("what was handed in is kept")
	}
	first[1] = 98
	_ = append(first, 97)
	f.Put16(0x0605)
	if got := f.Bytes(); !bytes.Equal(got, []byte{1, 2, 3, 4, 5, 6, 7, 8, 5, 6}) {
		t.Error("an answer is the buffer's own", got)
	}
	second := f.Bytes()
	f.Set64(0, 0)
	if !bytes.Equal(second, []byte{1, 2, 3, 4, 5, 6, 7, 8, 5, 6}) {
		t.Error("an answer changed behind it", second)
	}
	if raw[1] != 2 {
		t.Error("what was handed in is changed", raw)
	}
}

// P2.3: what is laid down in one isn't in another.
func TestBufsAreApart(t *testing.T) {
	f, g := le.New(), le.New()
	f.Put32(7)
	if g.Len() != 0 {
		t.Error(g.Len())
	}
	g.Put16(3)
	if !bytes.Equal(f.Bytes(), []byte{7, 0, 0, 0}) || !bytes.Equal(g.Bytes(), []byte{3, 0}) {
		t.Error(f.Bytes(), g.Bytes())
	}
}
