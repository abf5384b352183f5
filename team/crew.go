package team

import (
	"sync"
	"sync/atomic"

	"lockstep/api"
	"lockstep/laid"
)

// crew does the program of one call.
type crew struct {
	numbers []atomic.Int64 // of the variables, by their places
	left    atomic.Int64   // steps; below 0, if there were too few
	ready   chan *path     // paths on which no worker is yet
	over    chan struct{}  // closed when the program is done, or the steps are too few
}

// newCrew gives the channel room for all paths that may be ready at a time, so no send ever has to wait: they lead through different blocks, each of which has a statement of its own.
func newCrew(program []laid.Stat, numbers []int64, steps int) *crew {
	c := &crew{
		numbers: make([]atomic.Int64, len(numbers)),
		ready:   make(chan *path, api.MaxOps),
		over:    make(chan struct{}),
	}
	for place, n := range numbers {
		c.numbers[place].Store(n)
	}
	c.left.Store(int64(steps))
	c.ready <- &path{list: program, times: 1}
	return c
}

// workOff the program, by so many workers.
func (c *crew) workOff(workers int) {
	var all sync.WaitGroup
	all.Add(workers)
	for range workers {
		go func() {
			defer all.Done()
			c.work()
		}()
	}
	all.Wait()
}

// work: a worker is free till it is handed a path. Which of the two comes first, if both might, is the same: there is a path when it is over only if the steps were too few, and none is left for it.
func (c *crew) work() {
	for {
		select {
		case p := <-c.ready:
			c.follow(p)
		case <-c.over:
			return
		}
	}
}

// follow a path, and those to which it leads, as long as there is one for this worker.
func (c *crew) follow(p *path) {
	for p != nil {
		if p.ended() {
			p = c.leave(p)
		} else {
			p = c.do(p)
		}
	}
}

// leave a path at its end. It answers the one with which to go on: none, if others have not come so far yet.
func (c *crew) leave(p *path) *path {
	p.times--
	switch {
	case p.times > 0:
		p.next = 0
		return p
	case p.up == nil:
		close(c.over)
		return nil
	case p.up.open.Add(-1) > 0:
		return nil
	}
	return p.up
}

// do the next statement. It answers the path with which to go on: none, if there are no steps left.
func (c *crew) do(p *path) *path {
	s := &p.list[p.next]
	p.next++
	switch s.Kind {
	case api.Repeat:
		return c.split(p, s.Blocks, s.Times)
	case api.Par:
		return c.split(p, s.Blocks, 1)
	}
	if !c.mayStep() {
		return nil
	}
	n := s.E.Value(c.number)
	switch {
	case s.Kind == api.Assign:
		c.numbers[s.Place].Store(n)
	case s.Kind == api.Add:
		c.numbers[s.Place].Add(n)
	case n > 0:
		return c.split(p, s.Blocks[:1], 1)
	case len(s.Blocks) > 1:
		return c.split(p, s.Blocks[1:], 1)
	}
	return p
}

// split a path into those through the blocks. One is for this worker; the others are for those that are free, or will be.
func (c *crew) split(p *path, blocks [][]laid.Stat, times int64) *path {
	inner := p.into(blocks, times)
	for _, other := range inner[1:] {
		c.ready <- other
	}
	return inner[0]
}

// mayStep: is a step left? The first one that is not ends it all.
func (c *crew) mayStep() bool {
	left := c.left.Add(-1)
	if left == -1 {
		close(c.over)
	}
	return left >= 0
}

func (c *crew) number(place int) int64 { return c.numbers[place].Load() }

// told: the numbers in the end.
func (c *crew) told() []int64 {
	l := make([]int64, len(c.numbers))
	for place := range l {
		l[place] = c.number(place)
	}
	return l
}
