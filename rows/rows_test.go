package rows_test

import (
	"testing"

	"messuage/rows"
)

// A row of one seed is the same each time, that of another one isn't.
func TestSame(t *testing.T) {
	a, b, other := rows.New(1), rows.New(1), rows.New(2)
	differ := 0
	for range 100 {
		n := a.Next()
		if m := b.Next(); n != m {
			t.Errorf("%d, %d", n, m)
		}
		if n != other.Next() {
			differ++
		}
	}
	if differ < 99 {
		t.Errorf("just %d differ", differ)
	}
}

// Each number below another one comes about as often as the others, and none that isn't.
func TestBelow(t *testing.T) {
	var met [7]int
	for r, i := rows.New(3), 0; i < 7000; i++ {
		met[r.Below(7)]++
	}
	for n, often := range met {
		if often < 800 || often > 1200 {
			t.Errorf("%d came %d times", n, often)
		}
	}
	if n := rows.New(4).Below(1); n != 0 {
		t.Error(n)
	}
}

// Each text comes, and no other.
func TestText(t *testing.T) {
	met := map[string]int{}
	for r, i := rows.New(5), 0; i < 100; i++ {
		met[r.Text("a", "b", "a")]++
	}
	if len(met) != 2 || met["b"] == 0 || met["a"] <= met["b"] {
		t.Error(met)
	}
}
