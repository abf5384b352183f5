package lang

import (
	"lockstep/api"
	"lockstep/laid"
)

// doer does a program one statement behind the other, in at most so many steps.
type doer struct {
	numbers     []int64
	steps, most int
}

func (d *doer) number(place int) int64 { return d.numbers[place] }

// doAll statements; false, if more steps would be needed.
func (d *doer) doAll(l []laid.Stat) bool {
	for i := range l {
		if !d.do(&l[i]) {
			return false
		}
	}
	return true
}

func (d *doer) do(s *laid.Stat) bool {
	switch s.Kind {
	case api.Repeat:
		for range s.Times {
			if !d.doAll(s.Blocks[0]) {
				return false
			}
		}
		return true
	case api.Par:
		for _, block := range s.Blocks {
			if !d.doAll(block) {
				return false
			}
		}
		return true
	}
	if d.steps == d.most {
		return false
	}
	d.steps++
	return d.step(s)
}

// step: an Assign, an Add, or an If with what it does.
func (d *doer) step(s *laid.Stat) bool {
	n := s.E.Value(d.number)
	switch {
	case s.Kind == api.Assign:
		d.numbers[s.Place] = n
	case s.Kind == api.Add:
		d.numbers[s.Place] += n
	case n > 0:
		return d.doAll(s.Blocks[0])
	case len(s.Blocks) > 1:
		return d.doAll(s.Blocks[1])
	}
	return true
}

// leftBehind: how many of so many steps are left at most behind the statements, as far as is known without doing them; below 0, if they are too few. So what would need far too many need not be begun.
func leftBehind(l []laid.Stat, steps int) int {
	for i := range l {
		if steps < 0 {
			break
		}
		steps = leftBehindOne(&l[i], steps)
	}
	return steps
}

func leftBehindOne(s *laid.Stat, steps int) int {
	switch s.Kind {
	case api.Repeat:
		return leftBehindTimes(s.Blocks[0], int(s.Times), steps)
	case api.Par:
		for _, block := range s.Blocks {
			steps = leftBehind(block, steps)
		}
		return steps
	case api.If:
		if len(s.Blocks) > 1 {
			return max(leftBehind(s.Blocks[0], steps-1), leftBehind(s.Blocks[1], steps-1))
		}
	}
	return steps - 1
}

// leftBehindTimes of the block. All times together are held against the steps by dividing, as their product might run over.
func leftBehindTimes(block []laid.Stat, times, steps int) int {
	left := leftBehind(block, steps)
	if left < 0 || steps-left > steps/times {
		return -1
	}
	return steps - (steps-left)*times
}
