package leb_test

import (
	"bytes"
	"math"
	"math/big"
	"math/bits"
	"math/rand/v2"
	"testing"

	"messuage/api"
	"messuage/leb"
)

// numbers: those at which one group more is wanted, and those beside them.
func numbers() []uint64 {
	l := []uint64{0, 1, 2, 300, math.MaxUint64 - 1, math.MaxUint64}
	for shift := 1; shift < 64; shift++ {
		l = append(l, 1<<shift-1, 1<<shift, 1<<shift+1)
	}
	return l
}

// signed: the same with both signs.
func signed() []int64 {
	l := []int64{math.MinInt64, math.MinInt64 + 1}
	for _, n := range numbers() {
		l = append(l, int64(n), -int64(n), ^int64(n))
	}
	return l
}

// value: the number that groups say by the chapter's words, without bounds.
func value(b []byte, sign bool) *big.Int {
	n := new(big.Int)
	for i, x := range b {
		group := big.NewInt(int64(x & 127))
		n.Or(n, group.Lsh(group, uint(7*i)))
	}
	if sign && b[len(b)-1]&64 != 0 {
		n.Sub(n, new(big.Int).Lsh(big.NewInt(1), uint(7*len(b))))
	}
	return n
}

// checkForm: has each byte but the last 128 more?
func checkForm(t *testing.T, b []byte) {
	t.Helper()
	if len(b) == 0 {
		t.Fatal("no groups")
	}
	for i, x := range b {
		if (x >= 128) != (i < len(b)-1) {
			t.Errorf("%v", b)
		}
	}
}

// groups: how many groups so many bits want; one at least.
func groups(many int) int { return max(1, (many+6)/7) }

// P3.1
func TestPutU(t *testing.T) {
	for n, want := range map[uint64][]byte{0: {0}, 1: {1}, 127: {127}, 128: {128, 1}, 300: {172, 2}, 16383: {255, 127}, 16384: {128, 128, 1},
		math.MaxUint64: {255, 255, 255, 255, 255, 255, 255, 255, 255, 1}, 1 << 63: {128, 128, 128, 128, 128, 128, 128, 128, 128, 1}} {
		if got := leb.PutU(n); !bytes.Equal(got, want) {
			t.Errorf("PutU(%d): %v, not %v", n, got, want)
		}
	}
	for _, n := range numbers() {
		b := leb.PutU(n)
		checkForm(t, b)
		if value(b, false).Cmp(new(big.Int).SetUint64(n)) != 0 || len(b) != groups(bits.Len64(n)) {
			t.Errorf("PutU(%d): %v", n, b)
		}
	}
}

// P3.1
func TestPutS(t *testing.T) {
	for n, want := range map[int64][]byte{0: {0}, 1: {1}, -1: {127}, -2: {126}, 63: {63}, 64: {192, 0}, -64: {64}, -65: {191, 127}, 127: {255, 0}, 128: {128, 1}, -128: {128, 127}, 8191: {255, 63}, 8192: {128, 192, 0}, -8192: {128, 64},
		math.MaxInt64: {255, 255, 255, 255, 255, 255, 255, 255, 255, 0}, math.MinInt64: {128, 128, 128, 128, 128, 128, 128, 128, 128, 127}} {
		if got := leb.PutS(n); !bytes.Equal(got, want) {
			t.Errorf("PutS(%d): %v, not %v", n, got, want)
		}
	}
	for _, n := range signed() {
		b := leb.PutS(n)
		checkForm(t, b)
		wanted := 1 + bits.Len64(uint64(max(n, ^n))) // one more for the sign
		if value(b, true).Cmp(big.NewInt(n)) != 0 || len(b) != groups(wanted) {
			t.Errorf("PutS(%d): %v", n, b)
		}
	}
}

// checkFailed: a reader with an error answers 0, has nothing left, and keeps its first error.
func checkFailed(t *testing.T, r *leb.Reader, e api.Errno) {
	t.Helper()
	for range 3 {
		if n := r.U(); n != 0 {
			t.Errorf("U behind an error: %d", n)
		}
		if n := r.S(); n != 0 {
			t.Errorf("S behind an error: %d", n)
		}
		if r.Fail() != e || r.Left() != 0 {
			t.Errorf("Fail: %v, not %v; Left: %d", r.Fail(), e, r.Left())
		}
	}
}

// checkU: what U makes of bytes, and how many are left behind it.
func checkU(t *testing.T, b []byte, want uint64, e api.Errno, left int) {
	t.Helper()
	r := leb.Read(b)
	if r.Fail() != api.OK || r.Left() != len(b) {
		t.Errorf("%v: at first %v, %d", b, r.Fail(), r.Left())
	}
	if n := r.U(); n != want || r.Fail() != e || r.Left() != left {
		t.Errorf("%v: U %d, not %d; %v, not %v; left %d, not %d", b, n, want, r.Fail(), e, r.Left(), left)
	}
	if e != api.OK {
		checkFailed(t, r, e)
	}
}

// checkS: likewise of S.
func checkS(t *testing.T, b []byte, want int64, e api.Errno, left int) {
	t.Helper()
	r := leb.Read(b)
	if n := r.S(); n != want || r.Fail() != e || r.Left() != left {
		t.Errorf("%v: S %d, not %d; %v, not %v; left %d, not %d", b, n, want, r.Fail(), e, r.Left(), left)
	}
	if e != api.OK {
		checkFailed(t, r, e)
	}
}

// row: so many bytes of one kind, and others behind.
func row(many int, x byte, behind ...byte) []byte {
	return append(bytes.Repeat([]byte{x}, many), behind...)
}

// P3.2
func TestReadExamples(t *testing.T) {
	checkU(t, []byte{128, 0}, 0, api.OK, 0)
	checkU(t, []byte{172, 2}, 300, api.OK, 0)
	checkU(t, []byte{5, 6, 7}, 5, api.OK, 2)
	checkU(t, []byte{126}, 126, api.OK, 0)
	checkS(t, []byte{126}, -2, api.OK, 0)
	checkS(t, []byte{192, 0}, 64, api.OK, 0)
	checkS(t, []byte{64}, -64, api.OK, 0)
	checkS(t, []byte{63}, 63, api.OK, 0)
	checkU(t, row(10, 128), 0, api.ErrLeb, 0)
	checkS(t, row(10, 128), 0, api.ErrLeb, 0)
}

// P3.2: bytes that end too soon, from none up to nine groups without a last one.
func TestReadShort(t *testing.T) {
	checkU(t, nil, 0, api.ErrShort, 0)
	checkS(t, nil, 0, api.ErrShort, 0)
	checkU(t, []byte{}, 0, api.ErrShort, 0)
	for many := 1; many <= 9; many++ {
		for _, x := range []byte{128, 129, 192, 255} {
			checkU(t, row(many, x), 0, api.ErrShort, 0)
			checkS(t, row(many, x), 0, api.ErrShort, 0)
		}
	}
	checkU(t, []byte{128, 0}[:1], 0, api.ErrShort, 0) // what lies behind the length isn't read
	checkS(t, []byte{128, 0}[:1], 0, api.ErrShort, 0)
}

// P3.2: ten groups, and more.
func TestReadTenGroups(t *testing.T) {
	for last := range 128 {
		low := row(9, 129, byte(last), 42, 43)
		bits63 := value(low[:9], false).Uint64()
		switch last {
		case 0, 1:
			checkU(t, low, bits63|uint64(last)<<63, api.OK, 2)
		default:
			checkU(t, low, 0, api.ErrLeb, 0)
		}
		switch last {
		case 0:
			checkS(t, low, int64(bits63), api.OK, 2)
		case 127:
			checkS(t, low, int64(bits63|1<<63), api.OK, 2)
		default:
			checkS(t, low, 0, api.ErrLeb, 0)
		}
	}
	for tenth := 128; tenth < 256; tenth++ {
		for _, behind := range [][]byte{nil, {0}, {1}, {127}} {
			checkU(t, append(row(9, 128, byte(tenth)), behind...), 0, api.ErrLeb, 0)
			checkS(t, append(row(9, 128, byte(tenth)), behind...), 0, api.ErrLeb, 0)
		}
	}
	checkU(t, row(4096, 255), 0, api.ErrLeb, 0)
	checkS(t, row(4096, 128), 0, api.ErrLeb, 0)
}

// P3.2: number behind number, with and without a sign, up to an error.
func TestReadRow(t *testing.T) {
	r := leb.Read([]byte{1, 172, 2, 126, 126, 192, 0, 200})
	if r.Left() != 8 || r.U() != 1 || r.Left() != 7 || r.U() != 300 || r.Left() != 5 || r.U() != 126 || r.Left() != 4 || r.S() != -2 || r.Left() != 3 || r.S() != 64 || r.Left() != 1 || r.Fail() != api.OK {
		t.Error(r.Left(), r.Fail())
	}
	if r.U() != 0 || r.Fail() != api.ErrShort || r.Left() != 0 {
		t.Error(r.Left(), r.Fail())
	}
	checkFailed(t, r, api.ErrShort)
	// Behind an error right numbers aren't taken up either.
	r = leb.Read(append(row(10, 128), 5, 6))
	if r.S() != 0 || r.Left() != 0 {
		t.Error(r.Left())
	}
	checkFailed(t, r, api.ErrLeb)
	r = leb.Read(row(9, 128, 2, 5, 6))
	if r.U() != 0 || r.Left() != 0 {
		t.Error(r.Left())
	}
	checkFailed(t, r, api.ErrLeb)
}

// next: what the next number of bytes is by the chapter's words.
func next(b []byte, sign bool) (*big.Int, int, api.Errno) {
	for i, x := range b {
		if i == 10 {
			return nil, 0, api.ErrLeb
		}
		if x >= 128 {
			continue
		}
		if i == 9 && (!sign && x > 1 || sign && x != 0 && x != 127) {
			return nil, 0, api.ErrLeb
		}
		return value(b[:i+1], sign), len(b) - i - 1, api.OK
	}
	if len(b) >= 10 {
		return nil, 0, api.ErrLeb
	}
	return nil, 0, api.ErrShort
}

// P3.2: many rows of bytes, held against the chapter's words.
func TestReadAnyBytes(t *testing.T) {
	source := rand.New(rand.NewPCG(1, 2))
	likely := []byte{0, 1, 2, 63, 64, 127, 128, 129, 191, 192, 255, 255, 128, 128}
	for range 20000 {
		b := make([]byte, source.IntN(13))
		for i := range b {
			b[i] = likely[source.IntN(len(likely))]
			if i < 9 && source.IntN(3) > 0 {
				b[i] |= 128
			}
		}
		want, left, e := next(b, false)
		if e != api.OK {
			checkU(t, b, 0, e, 0)
		} else {
			checkU(t, b, want.Uint64(), e, left)
		}
		want, left, e = next(b, true)
		if e != api.OK {
			checkS(t, b, 0, e, 0)
		} else {
			checkS(t, b, want.Int64(), e, left)
		}
	}
}

// longer: the same number in so many groups; those that are more have just what the sign says.
func longer(b []byte, many int, fill byte) []byte {
	out := bytes.Clone(b)
	for len(out) < many {
		out[len(out)-1] |= 128
		out = append(out, fill)
	}
	return out
}

// P3.3
func TestWhatIsPutIsRead(t *testing.T) {
	for _, n := range numbers() {
		b := leb.PutU(n)
		for many := len(b); many <= 10; many++ {
			checkU(t, append(longer(b, many, 0), 7), n, api.OK, 1)
		}
	}
	for _, n := range signed() {
		b := leb.PutS(n)
		fill := byte(0)
		if n < 0 {
			fill = 127
		}
		for many := len(b); many <= 10; many++ {
			checkS(t, append(longer(b, many, fill), 7), n, api.OK, 1)
		}
	}
}

// P3.3: all of them one behind the other.
func TestWhatIsPutIsReadInARow(t *testing.T) {
	var b []byte
	for _, n := range numbers() {
		b = append(append(b, leb.PutU(n)...), leb.PutS(int64(n))...)
	}
	r := leb.Read(b)
	for _, n := range numbers() {
		if u := r.U(); u != n {
			t.Errorf("U %d, not %d", u, n)
		}
		if s := r.S(); s != int64(n) {
			t.Errorf("S %d, not %d", s, int64(n))
		}
	}
	if r.Left() != 0 || r.Fail() != api.OK {
		t.Error(r.Left(), r.Fail())
	}
}

// P3.1, P3.2: what is answered is new memory; what was handed in is neither kept nor changed.
func TestMemoryIsApart(t *testing.T) {
	one, other := leb.PutU(300), leb.PutU(300)
	one[0] = 0
	if !bytes.Equal(other, []byte{172, 2}) || !bytes.Equal(leb.PutU(300), []byte{172, 2}) {
		t.Error(other)
	}
	minus := leb.PutS(-2)
	minus[0] = 0
	if !bytes.Equal(leb.PutS(-2), []byte{126}) {
		t.Error("PutS")
	}
	b := []byte{172, 2, 5}
	r := leb.Read(b)
	b[0], b[2] = 1, 6
	if r.U() != 300 || r.U() != 5 {
		t.Error("what was handed in is kept")
	}
	if !bytes.Equal(b, []byte{1, 2, 6}) {
		t.Error("what was handed in is changed", b)
	}
}
