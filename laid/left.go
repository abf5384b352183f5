package laid

import "lockstep/api"

// Left: how many of so many steps are left at most behind the statements, as far as is known without doing them; below 0, if they are too few. So what would need far too many need not be begun.
func Left(l []Stat, steps int) int {
	for i := range l {
		if steps < 0 {
			break
		}
		steps = leftOfOne(&l[i], steps)
	}
	return steps
}

func leftOfOne(s *Stat, steps int) int {
	switch s.Kind {
	case api.Repeat:
		return leftOfTimes(s.Blocks[0], int(s.Times), steps)
	case api.Par:
		for _, block := range s.Blocks {
			steps = Left(block, steps)
		}
		return steps
	case api.If:
		if len(s.Blocks) > 1 {
			return max(Left(s.Blocks[0], steps-1), Left(s.Blocks[1], steps-1))
		}
	}
	return steps - 1
}

// leftOfTimes of the block. All times together are held against the steps by dividing, as their product might run over.
func leftOfTimes(block []Stat, times, steps int) int {
	left := Left(block, steps)
	if left < 0 || steps-left > steps/times {
		return -1
	}
	return steps - (steps-left)*times
}
