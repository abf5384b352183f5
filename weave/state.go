package weave

import "lockstep/api"

// state that there may be: an outline, and the numbers in it that matter; the others are 0, so that they make no difference.
type state struct {
	outline
	finds   [maxParts]int64 // what parts have found, and not written yet
	numbers numbers
}

type numbers [maxParts]int64

// begin with all states in which it may begin.
func (p *plan) begin(known *byAge) {
	for forgotten := range p.guessed.subsets() {
		s := state{outline: outline{need: p.allNumbers() &^ forgotten}}
		if !p.hope(s.outline) {
			continue
		}
		for at, place := range p.changed {
			s.numbers[at] = p.start[place]
		}
		p.forget(&s)
		p.keep(known, &s)
	}
}

// take a move; false, if an If would not do that.
func (p *plan) take(s *state, m *move) bool {
	own := &p.parts[m.part]
	switch m.kind {
	case find:
		s.finds[m.part] = p.value(s, own)
	case write:
		s.change(own, s.finds[m.part])
		s.finds[m.part] = 0
	case both:
		s.change(own, p.value(s, own))
	case first, second:
		if (p.value(s, own) > 0) != (m.kind == first) {
			return false
		}
	}
	s.outline = m.to
	p.forget(s)
	return true
}

func (s *state) change(own *part, n int64) {
	if own.kind == api.Add {
		n += s.numbers[own.at]
	}
	s.numbers[own.at] = n
}

// forget the numbers that do not matter.
func (p *plan) forget(s *state) {
	for at := range p.changed {
		if !s.need.has(at) {
			s.numbers[at] = 0
		}
	}
}

func (p *plan) value(s *state, own *part) int64 {
	return own.e.Value(func(place int) int64 { return p.number(s, place) })
}

func (p *plan) number(s *state, place int) int64 {
	for at, changed := range p.changed {
		if changed == place {
			return s.numbers[at]
		}
	}
	return p.start[place]
}
