package weave

import (
	"cmp"

	"lockstep/api"
)

// state that there may be: of the parts and of the numbers that are changed.
type state struct {
	over    set // done, or never to be done
	found   set // have found what they write, and not written it yet
	finds   [maxParts]int64
	numbers numbers
}

// numbers of the names that are changed, in the order of the names.
type numbers [maxParts]int64

func (p *plan) first() state {
	var s state
	for at, place := range p.changed {
		s.numbers[at] = p.start[place]
	}
	return s
}

// ready: may it go on with this part?
func (p *plan) ready(s *state, i int) bool {
	return !s.over.has(i) && p.parts[i].before&^s.over == 0
}

// alone: is it the same for what may come whether the part goes on now, or later?
func (p *plan) alone(s *state, i int) bool {
	own := &p.parts[i]
	if s.found.has(i) {
		return (own.rivals|own.readers&^s.found)&^s.over == 0
	}
	return own.changers&^s.over == 0
}

// goOn with a part: an If finds out which block it does, so that the other one is over; the others find what they write, or write it.
func (p *plan) goOn(s *state, i int) {
	own := &p.parts[i]
	switch {
	case s.found.has(i):
		s.write(own, i)
	case own.changes():
		s.finds[i] = p.value(s, own)
		s.found |= one(i)
	case p.value(s, own) > 0:
		s.over |= one(i) | own.blocks[1]
	default:
		s.over |= one(i) | own.blocks[0]
	}
}

func (s *state) write(own *part, i int) {
	n := s.finds[i]
	if own.kind == api.Add {
		n += s.numbers[own.at]
	}
	s.numbers[own.at] = n
	// What was found says nothing any more, and must not make two states of one.
	s.finds[i] = 0
	s.found &^= one(i)
	s.over |= one(i)
}

func (p *plan) value(s *state, own *part) int64 {
	return own.e.Value(func(place int) int64 { return p.number(s, place) })
}

func (p *plan) number(s *state, place int) int64 {
	for at, changed := range p.changed {
		if changed == place {
			return s.numbers[at]
		}
	}
	return p.start[place]
}

// begun: has the part found what it writes?
func (s *state) begun(i int) bool { return (s.found | s.over).has(i) }

// less: does what is to do of one part come ahead of what is to do of the other, when they are sorted?
func (s *state) less(i, j int) bool {
	c := cmp.Or(cmp.Compare(s.rank(i), s.rank(j)), cmp.Compare(s.finds[i], s.finds[j]))
	return c < 0
}

func (s *state) rank(i int) int {
	switch {
	case s.over.has(i):
		return 2
	case s.found.has(i):
		return 1
	}
	return 0
}

// swap what is to do of two parts.
func (s *state) swap(i, j int) {
	s.finds[i], s.finds[j] = s.finds[j], s.finds[i]
	s.over = s.over.swapped(i, j)
	s.found = s.found.swapped(i, j)
}
