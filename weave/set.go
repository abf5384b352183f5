package weave

// set of parts, by their places.
type set uint16

func one(part int) set { return 1 << part }

func (s set) has(part int) bool { return s&one(part) != 0 }

func (s set) swapped(i, j int) set {
	if s.has(i) != s.has(j) {
		s ^= one(i) | one(j)
	}
	return s
}
