package apply_test

import (
	"debug/elf"
	"math"
	"math/big"
	"testing"

	"messuage/apply"
	"messuage/rows"
)

// key is a type on a machine.
type key struct {
	machine uint16
	kind    uint32
}

// table: the chapter's table, by the names that Go's own package of ELF files gives its numbers.
func table() map[key]apply.Kind {
	const intel, arm = uint16(elf.EM_X86_64), uint16(elf.EM_AARCH64)
	return map[key]apply.Kind{
		{intel, uint32(elf.R_X86_64_NONE)}:     apply.None,
		{intel, uint32(elf.R_X86_64_64)}:       apply.Absolute,
		{intel, uint32(elf.R_X86_64_GLOB_DAT)}: apply.Slot,
		{intel, uint32(elf.R_X86_64_JMP_SLOT)}: apply.Slot,
		{intel, uint32(elf.R_X86_64_RELATIVE)}: apply.Relative,
		{arm, uint32(elf.R_AARCH64_NONE)}:      apply.None,
		{arm, uint32(elf.R_AARCH64_ABS64)}:     apply.Absolute,
		{arm, uint32(elf.R_AARCH64_GLOB_DAT)}:  apply.Absolute,
		{arm, uint32(elf.R_AARCH64_JUMP_SLOT)}: apply.Absolute,
		{arm, uint32(elf.R_AARCH64_RELATIVE)}:  apply.Relative,
	}
}

// checkRow: Of is what the table says.
func checkRow(t *testing.T, all map[key]apply.Kind, machine uint16, kind uint32) {
	t.Helper()
	want, is := all[key{machine, kind}]
	if k, ok := apply.Of(machine, kind); k != want || ok != is {
		t.Errorf("Of(%d, %d): %d, %v, not %d, %v", machine, kind, k, ok, want, is)
	}
}

// P15.1: all machines with the table's types, and the machines next to the table's with all types of 16 bits.
func TestOfModel(t *testing.T) {
	all := table()
	for machine := range 1 << 16 {
		want := uint32(0)
		for row, k := range all {
			checkRow(t, all, uint16(machine), row.kind)
			if k == apply.Relative && row.machine == uint16(machine) {
				want = row.kind
			}
		}
		if n := apply.RelativeType(uint16(machine)); n != want {
			t.Errorf("RelativeType(%d): %d, not %d", machine, n, want)
		}
	}
	for _, machine := range []uint16{0, 61, 62, 63, 182, 183, 184, math.MaxUint16} {
		for kind := range uint32(1 << 16) {
			checkRow(t, all, machine, kind)
			checkRow(t, all, machine, math.MaxUint32-kind)
			checkRow(t, all, machine, 1<<31+kind)
		}
	}
}

// number: any number, an edge often.
func number(r *rows.Row) uint64 {
	edges := []uint64{0, 1, 8, 256, 4096, math.MaxUint32, 1 << 40, math.MaxInt64, 1 << 63, 1<<63 + 1, math.MaxUint64 - 7, math.MaxUint64}
	if r.Below(2) == 0 {
		return edges[r.Below(len(edges))]
	}
	return r.Next() >> r.Below(64)
}

// wanted: what is laid down, as a sum without bound of which the lowest 64 bits are left.
func wanted(k apply.Kind, symbol uint64, add int64, base uint64) uint64 {
	sum := new(big.Int)
	if k == 1 || k == 3 {
		sum.SetUint64(symbol)
	}
	if k == 2 {
		sum.SetUint64(base)
	}
	if k == 1 || k == 2 {
		sum.Add(sum, big.NewInt(add))
	}
	return sum.Mod(sum, new(big.Int).Lsh(big.NewInt(1), 64)).Uint64()
}

// P15.1: values of any numbers, against sums that have no bound.
func TestValueModel(t *testing.T) {
	round := 0
	for seed := range uint64(50000) {
		r := rows.New(seed)
		k := apply.Kind(r.Below(6) - 1)
		symbol, add, base := number(r), int64(number(r)), number(r)
		checkValue(t, k, symbol, add, base, wanted(k, symbol, add, base))
		if k == apply.Absolute && add > 0 && symbol+uint64(add) < symbol {
			round++
		}
	}
	if round < 500 {
		t.Errorf("just %d sums go round", round)
	}
}
