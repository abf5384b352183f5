package lang

import "lockstep/api"

// doer does a program one statement behind the other, in at most so many steps.
type doer struct {
	numbers     []int64
	steps, most int
}

// doAll statements; false, if more steps would be needed.
func (d *doer) doAll(l []stat) bool {
	for i := range l {
		if !d.do(&l[i]) {
			return false
		}
	}
	return true
}

func (d *doer) do(s *stat) bool {
	switch s.kind {
	case api.Repeat:
		for range s.times {
			if !d.doAll(s.blocks[0]) {
				return false
			}
		}
		return true
	case api.Par:
		for _, block := range s.blocks {
			if !d.doAll(block) {
				return false
			}
		}
		return true
	}
	if d.steps == d.most {
		return false
	}
	d.steps++
	return d.step(s)
}

// step: an Assign, an Add, or an If with what it does.
func (d *doer) step(s *stat) bool {
	n := s.e.value(d.numbers)
	switch {
	case s.kind == api.Assign:
		d.numbers[s.place] = n
	case s.kind == api.Add:
		d.numbers[s.place] += n
	case n > 0:
		return d.doAll(s.blocks[0])
	case len(s.blocks) > 1:
		return d.doAll(s.blocks[1])
	}
	return true
}

func (e *expr) value(numbers []int64) int64 {
	switch e.kind {
	case api.Number:
		return e.n
	case api.Name:
		return numbers[e.place]
	}
	first, second := e.kids[0].value(numbers), e.kids[1].value(numbers)
	switch e.kind {
	case api.Sum:
		return first + second
	case api.Less:
		return first - second
	}
	return first * second
}

// leftBehind: how many of so many steps are left at most behind the statements, as far as is known without doing them; below 0, if they are too few. So what would need far too many need not be begun.
func leftBehind(l []stat, steps int) int {
	for i := range l {
		if steps < 0 {
			break
		}
		steps = l[i].leftBehind(steps)
	}
	return steps
}

func (s *stat) leftBehind(steps int) int {
	switch s.kind {
	case api.Repeat:
		return leftBehindTimes(s.blocks[0], int(s.times), steps)
	case api.Par:
		for _, block := range s.blocks {
			steps = leftBehind(block, steps)
		}
		return steps
	case api.If:
		if len(s.blocks) > 1 {
			return max(leftBehind(s.blocks[0], steps-1), leftBehind(s.blocks[1], steps-1))
		}
	}
	return steps - 1
}

// leftBehindTimes of the block. All times together are held against the steps by dividing, as their product might run over.
func leftBehindTimes(block []stat, times, steps int) int {
	left := leftBehind(block, steps)
	if left < 0 || steps-left > steps/times {
		return -1
	}
	return steps - (steps-left)*times
}
