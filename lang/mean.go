package lang

import (
	"lockstep/api"
	"lockstep/laid"
)

// doer does a program one statement behind the other, in at most so many steps.
type doer struct {
	numbers     []int64
	steps, most int
}

func (d *doer) number(place int) int64 { return d.numbers[place] }

// doAll statements; false, if more steps would be needed.
func (d *doer) doAll(l []laid.Stat) bool {
	for i := range l {
		if !d.do(&l[i]) {
			return false
		}
	}
	return true
}

func (d *doer) do(s *laid.Stat) bool {
	switch s.Kind {
	case api.Repeat:
		for range s.Times {
			if !d.doAll(s.Blocks[0]) {
				return false
			}
		}
		return true
	case api.Par:
		for _, block := range s.Blocks {
			if !d.doAll(block) {
				return false
			}
		}
		return true
	}
	if d.steps == d.most {
		return false
	}
	d.steps++
	return d.step(s)
}

// step: an Assign, an Add, or an If with what it does.
func (d *doer) step(s *laid.Stat) bool {
	n := s.E.Value(d.number)
	switch {
	case s.Kind == api.Assign:
		d.numbers[s.Place] = n
	case s.Kind == api.Add:
		d.numbers[s.Place] += n
	case n > 0:
		return d.doAll(s.Blocks[0])
	case len(s.Blocks) > 1:
		return d.doAll(s.Blocks[1])
	}
	return true
}
