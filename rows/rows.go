// Package rows gives tests rows of numbers that look like any, and are the same at each run. No layer calls it.
package rows

// Row is such a row, and how far one has gone along it.
type Row struct {
	n uint64
}

// New: the row of a seed.
func New(seed uint64) *Row { return &Row{seed*0x9e3779b97f4a7c15 + 1} }

// Next: the next number.
func (r *Row) Next() uint64 {
	r.n ^= r.n << 13
	r.n ^= r.n >> 7
	r.n ^= r.n << 17
	return r.n
}

// Below: the next number from 0 on that is below another one, which is above 0.
func (r *Row) Below(many int) int {
	// The lowest bits are left away: from one number to the next they hang together most.
	return int(r.Next() >> 11 % uint64(many))
}

// Text: any of some texts.
func (r *Row) Text(l ...string) string { return l[r.Below(len(l))] }
