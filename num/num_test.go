package num_test

import (
	"math"
	"math/big"
	"math/bits"
	"strconv"
	"strings"
	"testing"

	"messuage/api"
	"messuage/num"
)

// edges: numbers at which sums, products, units and rows of bytes turn.
func edges() []uint64 {
	l := []uint64{0, 1, 2, 3, 7, 8, 255, 256, 257, 511, 512, 513}
	for _, shift := range []uint{31, 32, 40, 63} {
		l = append(l, 1<<shift-1, 1<<shift, 1<<shift+1)
	}
	return append(l, math.MaxUint64-511, math.MaxUint64-256, math.MaxUint64-255, math.MaxUint64-254, math.MaxUint64-1, math.MaxUint64)
}

func wide(n uint64) *big.Int { return new(big.Int).SetUint64(n) }

// checkWide holds an answer against the number without bounds that it should be.
func checkWide(t *testing.T, what string, a, b, got uint64, ok bool, want *big.Int) {
	t.Helper()
	if want.IsUint64() {
		if !ok || got != want.Uint64() {
			t.Errorf("%s(%d, %d): %d, %v, not %s", what, a, b, got, ok, want)
		}
	} else if ok || got != 0 {
		t.Errorf("%s(%d, %d): %d, %v, though it is %s", what, a, b, got, ok, want)
	}
}

// P1.1
func TestAddSubMul(t *testing.T) {
	for _, a := range edges() {
		for _, b := range edges() {
			n, ok := num.Add(a, b)
			checkWide(t, "Add", a, b, n, ok, new(big.Int).Add(wide(a), wide(b)))
			n, ok = num.Sub(a, b)
			checkWide(t, "Sub", a, b, n, ok, new(big.Int).Sub(wide(a), wide(b)))
			n, ok = num.Mul(a, b)
			checkWide(t, "Mul", a, b, n, ok, new(big.Int).Mul(wide(a), wide(b)))
		}
	}
}

// P1.1: products right below and right above the bound.
func TestMulAtTheBound(t *testing.T) {
	for _, a := range edges() {
		if a < 2 {
			continue
		}
		most := math.MaxUint64 / a
		if n, ok := num.Mul(a, most); !ok || n != a*most {
			t.Errorf("Mul(%d, %d): %d, %v", a, most, n, ok)
		}
		if n, ok := num.Mul(most+1, a); ok || n != 0 {
			t.Errorf("Mul(%d, %d): %d, %v", most+1, a, n, ok)
		}
	}
}

// P1.2
func TestPower(t *testing.T) {
	for shift := range 64 {
		if !num.Power(1 << shift) {
			t.Errorf("2^%d is none", shift)
		}
	}
	for n := range uint64(5000) {
		if num.Power(n) != (bits.OnesCount64(n) == 1) {
			t.Errorf("Power(%d)", n)
		}
	}
	for _, n := range edges() {
		if num.Power(n) != (bits.OnesCount64(n) == 1) {
			t.Errorf("Power(%d)", n)
		}
	}
}

// P1.2
func TestDownUpExamples(t *testing.T) {
	cases := []struct {
		n, unit, down uint64
		downErr       api.Errno
		up            uint64
		upErr         api.Errno
	}{
		{257, 256, 256, api.OK, 512, api.OK},
		{256, 256, 256, api.OK, 256, api.OK},
		{255, 256, 0, api.OK, 256, api.OK},
		{0, 256, 0, api.OK, 0, api.OK},
		{9, 1, 9, api.OK, 9, api.OK},
		{math.MaxUint64, 256, math.MaxUint64 - 255, api.OK, 0, api.ErrOver},
		{math.MaxUint64 - 254, 256, math.MaxUint64 - 255, api.OK, 0, api.ErrOver},
		{math.MaxUint64 - 255, 256, math.MaxUint64 - 255, api.OK, math.MaxUint64 - 255, api.OK},
		{math.MaxUint64, 1, math.MaxUint64, api.OK, math.MaxUint64, api.OK},
		{math.MaxUint64, 1 << 63, 1 << 63, api.OK, 0, api.ErrOver},
		{1<<63 + 1, 1 << 63, 1 << 63, api.OK, 0, api.ErrOver},
		{1, 1 << 63, 0, api.OK, 1 << 63, api.OK},
		{1, 3, 0, api.ErrAlign, 0, api.ErrAlign},
		{1, 0, 0, api.ErrAlign, 0, api.ErrAlign},
		{math.MaxUint64, math.MaxUint64, 0, api.ErrAlign, 0, api.ErrAlign}, // ErrAlign is named ahead of ErrOver
	}
	for _, c := range cases {
		if n, e := num.Down(c.n, c.unit); n != c.down || e != c.downErr {
			t.Errorf("Down(%d, %d): %d, %v", c.n, c.unit, n, e)
		}
		if n, e := num.Up(c.n, c.unit); n != c.up || e != c.upErr {
			t.Errorf("Up(%d, %d): %d, %v", c.n, c.unit, n, e)
		}
	}
}

// P1.2: by what multiples are, at all units.
func TestDownUpAllUnits(t *testing.T) {
	for _, n := range edges() {
		for shift := range 64 {
			unit := uint64(1) << shift
			down, e := num.Down(n, unit)
			if e != api.OK || down%unit != 0 || down > n || n-down >= unit {
				t.Errorf("Down(%d, %d): %d, %v", n, unit, down, e)
			}
			up, e := num.Up(n, unit)
			if n > math.MaxUint64-(unit-1) {
				if e != api.ErrOver || up != 0 {
					t.Errorf("Up(%d, %d): %d, %v", n, unit, up, e)
				}
			} else if e != api.OK || up%unit != 0 || up < n || up-n >= unit {
				t.Errorf("Up(%d, %d): %d, %v", n, unit, up, e)
			}
		}
	}
}

// P1.2
func TestPages(t *testing.T) {
	for _, n := range edges() {
		want := new(big.Int).Add(wide(n), big.NewInt(255))
		want.Div(want, big.NewInt(256))
		if got := num.Pages(n); got != want.Uint64() {
			t.Errorf("Pages(%d): %d, not %s", n, got, want)
		}
	}
}

// P1.3
func TestInsideApartExamples(t *testing.T) {
	cases := []struct {
		at, size, from, room uint64
		inside, apart        bool
	}{
		{10, 5, 8, 7, true, false},
		{10, 6, 8, 7, false, false},
		{8, 7, 8, 7, true, false},
		{7, 1, 8, 7, false, true},
		{7, 2, 8, 7, false, false},
		{15, 0, 8, 7, true, true},
		{16, 0, 8, 7, false, true},
		{10, 0, 8, 7, true, true},
		{8, 0, 8, 0, true, true},
		{8, 1, 8, 0, false, true},
		{0, 4, 4, 4, false, true},
		{0, 5, 4, 4, false, false},
		{4, 4, 0, 4, false, true},
		{4, 4, 0, 5, false, false},
		{0, 9, 4, 0, false, true}, // no bytes amid others
		// Ends at 2^64, and beyond.
		{math.MaxUint64, 1, math.MaxUint64 - 1, 2, true, false},
		{math.MaxUint64, 2, math.MaxUint64 - 1, 2, false, false},
		{math.MaxUint64, 2, math.MaxUint64 - 1, 3, true, false},
		{math.MaxUint64, math.MaxUint64, 0, math.MaxUint64, false, true},
		{0, 1, math.MaxUint64, 2, false, true}, // what lies beyond 2^64 doesn't come round to 0
		{math.MaxUint64, 2, 0, 1, false, true},
		{math.MaxUint64, math.MaxUint64, math.MaxUint64, math.MaxUint64, true, false},
	}
	for _, c := range cases {
		if got := num.Inside(c.at, c.size, c.from, c.room); got != c.inside {
			t.Errorf("Inside(%d, %d, %d, %d): %v", c.at, c.size, c.from, c.room, got)
		}
		if got := num.Apart(c.at, c.size, c.from, c.room); got != c.apart {
			t.Errorf("Apart(%d, %d, %d, %d): %v", c.at, c.size, c.from, c.room, got)
		}
	}
}

// P1.3: small rows, byte by byte.
func TestApartByteByByte(t *testing.T) {
	const most = 6
	for at := range uint64(most) {
		for size := range uint64(most) {
			for from := range uint64(most) {
				for room := range uint64(most) {
					common := false
					for i := range size {
						common = common || at+i >= from && at+i < from+room
					}
					if num.Apart(at, size, from, room) == common {
						t.Errorf("Apart(%d, %d, %d, %d): %v", at, size, from, room, !common)
					}
					inside := at >= from && at+size <= from+room
					if num.Inside(at, size, from, room) != inside {
						t.Errorf("Inside(%d, %d, %d, %d): %v", at, size, from, room, !inside)
					}
				}
			}
		}
	}
}

// P1.3: rows at all edges, held against numbers without bounds.
func TestInsideApartWide(t *testing.T) {
	l := edges()
	ends := map[[2]uint64]*big.Int{}
	for _, at := range l {
		for _, size := range l {
			ends[[2]uint64{at, size}] = new(big.Int).Add(wide(at), wide(size))
		}
	}
	for one, oneEnd := range ends {
		for other, otherEnd := range ends {
			at, size, from, room := one[0], one[1], other[0], other[1]
			inside := at >= from && oneEnd.Cmp(otherEnd) <= 0
			if num.Inside(at, size, from, room) != inside {
				t.Errorf("Inside(%d, %d, %d, %d): %v", at, size, from, room, !inside)
			}
			apart := size == 0 || room == 0 || oneEnd.Cmp(wide(from)) <= 0 || otherEnd.Cmp(wide(at)) <= 0
			if num.Apart(at, size, from, room) != apart {
				t.Errorf("Apart(%d, %d, %d, %d): %v", at, size, from, room, !apart)
			}
		}
	}
}

// P1.4
func TestHex(t *testing.T) {
	for n, want := range map[uint64]string{0: "0x0", 9: "0x9", 10: "0xa", 15: "0xf", 16: "0x10", 4096: "0x1000", 0xabcdef: "0xabcdef", math.MaxUint64: "0xffffffffffffffff"} {
		if got := num.Hex(n); got != want {
			t.Errorf("Hex(%d): %s, not %s", n, got, want)
		}
	}
	for _, n := range append(edges(), 0x123456789abcdef0, 0xfedcba9876543210) {
		s := num.Hex(n)
		if s != "0x"+strconv.FormatUint(n, 16) {
			t.Errorf("Hex(%d): %s", n, s)
		}
		if got, e := num.ParseHex(s); got != n || e != api.OK {
			t.Errorf("ParseHex(%s): %d, %v", s, got, e)
		}
	}
}

// P1.4
func TestParseHexWrong(t *testing.T) {
	wrong := []string{"", "0", "1", "x", "x1", "0x", "0X1", "0x00", "0x01", "0x0f", "0xA", "0xF", "0x1A", "0xg", "0x1g", "0x/", "0x:", "0x`", "0x@",
		" 0x1", "0x1 ", "0x 1", "+0x1", "-0x1", "0x-1", "0x+1", "0x1_0", "0x1\x00", "00x1", "1x1", "0x0x1", "0x\u0661", "0x1\xff",
		"0x10000000000000000", "0x1ffffffffffffffff", "0xffffffffffffffff0", "0x0ffffffffffffffff", "0x" + strings.Repeat("f", 4096), "0x" + strings.Repeat("0", 4096)}
	for _, s := range wrong {
		if n, e := num.ParseHex(s); n != 0 || e != api.ErrDigits {
			t.Errorf("ParseHex(%q): %d, %v", s, n, e)
		}
	}
}

// texts: all texts of at most so many bytes out of some.
func texts(bytes string, most int) []string {
	l := []string{""}
	for from := 0; most > 0; most-- {
		upTo := len(l)
		for _, s := range l[from:upTo] {
			for i := range len(bytes) {
				l = append(l, s+bytes[i:i+1])
			}
		}
		from = upTo
	}
	return l
}

// P1.4: just what Hex writes is read.
func TestParseHexReadsJustHex(t *testing.T) {
	for _, rest := range texts("0129afAFgx-+ _\x80", 4) {
		for _, ahead := range []string{"", "0x", "0X", "x"} {
			s := ahead + rest
			n, e := num.ParseHex(s)
			want, err := strconv.ParseUint(strings.TrimPrefix(s, "0x"), 16, 64)
			right := err == nil && s == "0x"+strconv.FormatUint(want, 16)
			if right && (e != api.OK || n != want) || !right && (e != api.ErrDigits || n != 0) {
				t.Errorf("ParseHex(%q): %d, %v", s, n, e)
			}
		}
	}
}

// P1.5
func TestText(t *testing.T) {
	for n, want := range map[int]string{0: "0", 1: "1", 9: "9", 10: "10", 100: "100", 1234567890: "1234567890", math.MaxInt32: "2147483647", -1: "0", -10: "0", math.MinInt: "0"} {
		if got := num.Text(n); got != want {
			t.Errorf("Text(%d): %s, not %s", n, got, want)
		}
	}
	if got := num.Text(math.MaxInt); got != strconv.Itoa(math.MaxInt) {
		t.Error(got)
	}
	for n := range 11000 {
		if got := num.Text(n); got != strconv.Itoa(n) {
			t.Errorf("Text(%d): %s", n, got)
		}
	}
}

// P1.5
func TestParse(t *testing.T) {
	for _, n := range []int{0, 1, 9, 10, 11, 99, 100, 65535, 1234567890, math.MaxInt32 - 1, math.MaxInt32} {
		if got, e := num.Parse(num.Text(n)); got != n || e != api.OK {
			t.Errorf("Parse(%d): %d, %v", n, got, e)
		}
	}
	wrong := []string{"", "00", "01", "007", "-0", "-1", "+1", " 1", "1 ", "1\n", "a", "1a", "0x1", "1.0", "1e3", "1_0", "/", ":", "\u0661", "1\xff", "1\x00",
		"2147483648", "2147483649", "2147483650", "4294967296", "4294967297", "9999999999", "10000000000", "18446744073709551615", "18446744073709551616", "18446744073709551617", strings.Repeat("9", 4096), strings.Repeat("0", 4096)}
	for _, s := range wrong {
		if n, e := num.Parse(s); n != 0 || e != api.ErrDigits {
			t.Errorf("Parse(%q): %d, %v", s, n, e)
		}
	}
}

// P1.5: just what Text writes is read.
func TestParseReadsJustText(t *testing.T) {
	for _, s := range texts("0129a-+ _\x80", 4) {
		n, e := num.Parse(s)
		want, err := strconv.Atoi(s)
		right := err == nil && s == strconv.Itoa(want) && want >= 0
		if right && (e != api.OK || n != want) || !right && (e != api.ErrDigits || n != 0) {
			t.Errorf("Parse(%q): %d, %v", s, n, e)
		}
	}
}
