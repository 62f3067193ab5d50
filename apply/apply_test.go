package apply_test

import (
	"math"
	"testing"

	"messuage/api"
	"messuage/apply"
)

// checkOf: this type has this kind on this machine.
func checkOf(t *testing.T, machine uint16, kind uint32, want apply.Kind) {
	t.Helper()
	if k, ok := apply.Of(machine, kind); k != want || !ok {
		t.Errorf("Of(%d, %d): %d, %v, not %d", machine, kind, k, ok, want)
	}
}

// checkNoKind: this machine has no such type.
func checkNoKind(t *testing.T, machine uint16, kind uint32) {
	t.Helper()
	if k, ok := apply.Of(machine, kind); k != 0 || ok {
		t.Errorf("Of(%d, %d): %d, %v", machine, kind, k, ok)
	}
}

// checkValue: this is laid down.
func checkValue(t *testing.T, k apply.Kind, symbol uint64, add int64, base, want uint64) {
	t.Helper()
	if v := apply.Value(k, symbol, add, base); v != want {
		t.Errorf("Value(%d, %d, %d, %d): %d, not %d", k, symbol, add, base, v, want)
	}
}

// others: machines that there are not.
func others() []uint16 {
	return []uint16{0, 1, 3, 40, 61, 63, 182, 184, 62 + 256, 183 + 256, 62 << 8, 183 << 8, 257, 1 << 15, 1<<15 + 62, 1<<15 + 183, math.MaxUint16 - 62, math.MaxUint16 - 183, math.MaxUint16}
}

// noKinds: kinds that there are not.
func noKinds() []apply.Kind {
	return []apply.Kind{-1, -2, -3, -4, 4, 5, 6, 7, 8, 255, 256, 257, 258, 259, 1 << 31, 1<<32 + 1, 1<<32 + 2, 1<<32 + 3, -1<<32 + 1, -1<<32 + 2, -1<<32 + 3, math.MinInt, math.MinInt + 1, math.MinInt + 3, math.MaxInt - 1, math.MaxInt}
}

// P15.1: the chapter's own examples.
func TestExamples(t *testing.T) {
	checkOf(t, 62, 8, apply.Relative)
	checkValue(t, apply.Absolute, 256, -8, 0, 248)
	if n := apply.RelativeType(183); n != 1027 {
		t.Error(n)
	}
}

// P15.1: the kinds' numbers, and the type that they are of.
func TestKinds(t *testing.T) {
	want := [4]apply.Kind{0, 1, 2, 3}
	if got := [4]apply.Kind{apply.None, apply.Absolute, apply.Relative, apply.Slot}; got != want {
		t.Error(got)
	}
	var one any = apply.Slot
	if _, ok := one.(apply.Kind); !ok {
		t.Errorf("Slot is a %T", one)
	}
}

// P15.1: each row of the table, on its machine and on all others.
func TestRows(t *testing.T) {
	cases := []struct {
		machine, other uint16
		kind           uint32
		want           apply.Kind
	}{
		{62, 183, 1, apply.Absolute},
		{62, 183, 6, apply.Slot},
		{62, 183, 7, apply.Slot},
		{62, 183, 8, apply.Relative},
		{183, 62, 257, apply.Absolute},
		{183, 62, 1025, apply.Absolute},
		{183, 62, 1026, apply.Absolute},
		{183, 62, 1027, apply.Relative},
	}
	for _, row := range cases {
		checkOf(t, row.machine, row.kind, row.want)
		checkNoKind(t, row.other, row.kind)
		for _, machine := range others() {
			checkNoKind(t, machine, row.kind)
		}
	}
	checkOf(t, api.Intel, 8, apply.Relative)
	checkOf(t, api.Arm, 1027, apply.Relative)
}

// P15.1: type 0 is None on both machines; on a machine that there is not it is no type.
func TestTypeNone(t *testing.T) {
	checkOf(t, 62, 0, apply.None)
	checkOf(t, 183, 0, apply.None)
	for _, machine := range others() {
		checkNoKind(t, machine, 0)
	}
}

// P15.1: types beside those of the table, and those that have one's lower bits alone.
func TestNoTypes(t *testing.T) {
	for _, kind := range []uint32{2, 3, 4, 5, 9, 10, 16, 17, 37, 38, 256, 258, 1023, 1024, 1028, 1029, 1032} {
		checkNoKind(t, 62, kind)
		checkNoKind(t, 183, kind)
	}
	for _, machine := range []uint16{62, 183} {
		for _, kind := range []uint32{0, 1, 6, 7, 8, 257, 1025, 1026, 1027} {
			for bit := 11; bit < 32; bit++ {
				checkNoKind(t, machine, kind|1<<bit)
			}
			checkNoKind(t, machine, math.MaxUint32-kind)
			if kind > 0 {
				checkNoKind(t, machine, -kind)
			}
		}
		checkNoKind(t, machine, math.MaxInt32)
		checkNoKind(t, machine, 1<<31)
		checkNoKind(t, machine, math.MaxUint32)
	}
	// The lower byte of Arm's types alone.
	checkNoKind(t, 183, 1)
	checkNoKind(t, 183, 2)
	checkNoKind(t, 183, 3)
}

// P15.1
func TestSymbol(t *testing.T) {
	for k, want := range map[apply.Kind]bool{apply.None: false, apply.Absolute: true, apply.Relative: false, apply.Slot: true} {
		if apply.Symbol(k) != want {
			t.Errorf("Symbol(%d): %v", k, !want)
		}
	}
	for _, k := range noKinds() {
		if apply.Symbol(k) {
			t.Errorf("Symbol(%d)", k)
		}
	}
}

// P15.1: the symbol's address and what is added, whatever the base.
func TestAbsolute(t *testing.T) {
	for _, base := range []uint64{0, 1, 4096, 1 << 63, math.MaxUint64} {
		checkValue(t, apply.Absolute, 0, 0, base, 0)
		checkValue(t, apply.Absolute, 256, 0, base, 256)
		checkValue(t, apply.Absolute, 256, 8, base, 264)
		checkValue(t, apply.Absolute, 256, -8, base, 248)
		checkValue(t, apply.Absolute, 256, -256, base, 0)
		checkValue(t, apply.Absolute, 0, -1, base, math.MaxUint64)
		checkValue(t, apply.Absolute, 256, -257, base, math.MaxUint64)
		checkValue(t, apply.Absolute, math.MaxUint64, 0, base, math.MaxUint64)
		checkValue(t, apply.Absolute, math.MaxUint64, 1, base, 0)
		checkValue(t, apply.Absolute, math.MaxUint64, -1, base, math.MaxUint64-1)
		checkValue(t, apply.Absolute, 0, math.MinInt64, base, 1<<63)
		checkValue(t, apply.Absolute, 1<<63, math.MinInt64, base, 0)
		checkValue(t, apply.Absolute, math.MaxUint64, math.MinInt64, base, math.MaxInt64)
		checkValue(t, apply.Absolute, 0, math.MaxInt64, base, math.MaxInt64)
		checkValue(t, apply.Absolute, 1<<63, math.MaxInt64, base, math.MaxUint64)
		checkValue(t, apply.Absolute, 1<<63+1, math.MaxInt64, base, 0)
		checkValue(t, apply.Absolute, math.MaxUint64, math.MaxInt64, base, math.MaxInt64-1)
	}
}

// P15.1: the base and what is added, whatever the symbol.
func TestRelative(t *testing.T) {
	for _, symbol := range []uint64{0, 1, 4096, 1 << 63, math.MaxUint64} {
		checkValue(t, apply.Relative, symbol, 0, 0, 0)
		checkValue(t, apply.Relative, symbol, 0, 4096, 4096)
		checkValue(t, apply.Relative, symbol, 16, 4096, 4112)
		checkValue(t, apply.Relative, symbol, -16, 4096, 4080)
		checkValue(t, apply.Relative, symbol, -4096, 4096, 0)
		checkValue(t, apply.Relative, symbol, -1, 0, math.MaxUint64)
		checkValue(t, apply.Relative, symbol, 1, math.MaxUint64, 0)
		checkValue(t, apply.Relative, symbol, math.MinInt64, 0, 1<<63)
		checkValue(t, apply.Relative, symbol, math.MinInt64, math.MaxUint64, math.MaxInt64)
		checkValue(t, apply.Relative, symbol, math.MaxInt64, 0, math.MaxInt64)
		checkValue(t, apply.Relative, symbol, math.MaxInt64, math.MaxUint64, math.MaxInt64-1)
	}
}

// P15.1: the symbol's address alone; of None and of kinds that there are not, 0.
func TestSlotAndOthers(t *testing.T) {
	for _, symbol := range []uint64{0, 1, 7, 256, math.MaxInt64, 1 << 63, math.MaxUint64} {
		for _, add := range []int64{0, 1, -1, 9, math.MinInt64, math.MaxInt64} {
			for _, base := range []uint64{0, 9, 4096, 1 << 63, math.MaxUint64} {
				checkValue(t, apply.Slot, symbol, add, base, symbol)
				checkValue(t, apply.None, symbol, add, base, 0)
				for _, k := range noKinds() {
					checkValue(t, k, symbol, add, base, 0)
				}
			}
		}
	}
}

// P15.1: what is Relative on a machine, which Of tells too, and of no other type.
func TestRelativeType(t *testing.T) {
	for machine, want := range map[uint16]uint32{62: 8, 183: 1027} {
		if n := apply.RelativeType(machine); n != want {
			t.Errorf("RelativeType(%d): %d", machine, n)
		}
		checkOf(t, machine, apply.RelativeType(machine), apply.Relative)
		for kind := range uint32(1 << 17) {
			if k, _ := apply.Of(machine, kind); (k == apply.Relative) != (kind == want) {
				t.Errorf("Of(%d, %d): %d", machine, kind, k)
			}
		}
	}
	for _, machine := range others() {
		if n := apply.RelativeType(machine); n != 0 {
			t.Errorf("RelativeType(%d): %d", machine, n)
		}
		checkNoKind(t, machine, apply.RelativeType(machine))
	}
}
