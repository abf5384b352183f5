package team

import (
	"sync"
	"sync/atomic"

	"lockstep/api"
	"lockstep/laid"
)

// variable: its number. It has room about it, so that workers who write different ones are not in each other's way: what lies close together in memory is handed to and fro between them as one.
type variable struct {
	atomic.Int64
	_ [7]int64
}

// crew does the program of one call.
type crew struct {
	numbers []variable    // by their places
	left    atomic.Int64  // steps; below 0, if there were too few
	ready   chan *path    // paths on which no worker is yet
	over    chan struct{} // closed when the program is done, or the steps are too few
	end     sync.Once
}

// newCrew gives the channel room for all paths that may be ready at a time, so no send ever has to wait: they lead through different blocks, each of which has a statement of its own.
func newCrew(program []laid.Stat, numbers []int64, steps int) *crew {
	c := &crew{
		numbers: make([]variable, len(numbers)),
		ready:   make(chan *path, api.MaxOps),
		over:    make(chan struct{}),
	}
	for place, n := range numbers {
		c.numbers[place].Store(n)
	}
	c.left.Store(int64(steps))
	c.ready <- &path{list: program, times: 1}
	return c
}

// workOff the program, by so many workers.
func (c *crew) workOff(workers int) {
	var all sync.WaitGroup
	all.Add(workers)
	for range workers {
		go func() {
			defer all.Done()
			w := worker{crew: c}
			w.work()
		}()
	}
	all.Wait()
}

// stop it all. There may be several that find out that the steps are too few, even when the program is done.
func (c *crew) stop() {
	c.end.Do(func() { close(c.over) })
}

func (c *crew) number(place int) int64 { return c.numbers[place].Load() }

// told: the numbers in the end.
func (c *crew) told() []int64 {
	l := make([]int64, len(c.numbers))
	for place := range l {
		l[place] = c.number(place)
	}
	return l
}
