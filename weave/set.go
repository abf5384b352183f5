package weave

import (
	"iter"
	"math/bits"
)

// set of parts, or of numbers, by their places.
type set uint16

func one(place int) set { return 1 << place }

func (s set) has(place int) bool { return s&one(place) != 0 }

func (s set) size() int { return bits.OnesCount16(uint16(s)) }

func (s set) swapped(i, j int) set {
	if s.has(i) != s.has(j) {
		s ^= one(i) | one(j)
	}
	return s
}

// subsets: all of them, itself and the empty one too.
func (s set) subsets() iter.Seq[set] {
	return func(yield func(set) bool) {
		for some := s; yield(some) && some != 0; {
			some = (some - 1) & s
		}
	}
}
