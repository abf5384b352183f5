package lattice

import "lockstep/api"

// value is what a cell has: a number, and the rule of its kind by which it rises. A value itself never changes; a cell takes another one.
type value interface {
	reached(n int64) bool
	joined(n int64) value
}

// greatest is the value of a Grow cell.
type greatest int64

func (g greatest) reached(n int64) bool { return int64(g) >= n }

func (g greatest) joined(n int64) value { return max(g, greatest(n)) }

// bits is the value of a Union cell.
type bits int64

func (b bits) reached(n int64) bool { return int64(b)&n == n }

func (b bits) joined(n int64) value { return b | bits(n) }

// firstOf: what a cell of this kind has at first.
func firstOf(kind int) value {
	if kind == api.Union {
		return bits(0)
	}
	return greatest(0)
}

// number: the number alone, whichever of the two kinds it is of.
func number(v value) int64 {
	if g, grows := v.(greatest); grows {
		return int64(g)
	}
	b, _ := v.(bits)
	return int64(b)
}
