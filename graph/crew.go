package graph

import (
	"sync"
	"sync/atomic"

	"lockstep/api"
)

// crew works out the numbers of one call's jobs. A job that waits is held by no worker: whoever works out the last one that it waits for sends it on.
type crew struct {
	jobs    []api.Job
	behind  [][]int
	numbers []int64
	waiting []atomic.Int64 // of each job how many of its After are not worked out
	undone  atomic.Int64
	ready   chan int
}

// newCrew gives the channel room for every job: each is sent once, so no send ever has to wait.
func newCrew(l []api.Job) *crew {
	c := &crew{
		jobs:    l,
		behind:  behind(l),
		numbers: make([]int64, len(l)),
		waiting: make([]atomic.Int64, len(l)),
		ready:   make(chan int, len(l)),
	}
	for at, j := range l {
		c.waiting[at].Store(int64(len(j.After)))
	}
	c.undone.Store(int64(len(l)))
	for _, at := range free(l) {
		c.ready <- at
	}
	return c
}

// workOff does all jobs. More workers than jobs would find nothing to do; of no jobs there are none, and nobody closes the channel.
func (c *crew) workOff(workers int) {
	var all sync.WaitGroup
	workers = min(workers, len(c.jobs))
	all.Add(workers)
	for range workers {
		go func() {
			defer all.Done()
			for at := range c.ready {
				c.do(at)
			}
		}()
	}
	all.Wait()
}

// do a job. Its number is there ahead of its being counted off, so whoever counts off the last one of an After finds the numbers of all. It is counted as done behind all that it sends, so the channel is closed behind every send.
func (c *crew) do(at int) {
	c.numbers[at] = c.number(at)
	for _, next := range c.behind[at] {
		if c.waiting[next].Add(-1) == 0 {
			c.ready <- next
		}
	}
	if c.undone.Add(-1) == 0 {
		close(c.ready)
	}
}

// number of a job whose After are all worked out.
func (c *crew) number(at int) int64 {
	made := c.jobs[at].N
	for _, ahead := range c.jobs[at].After {
		made = 31*made + c.numbers[ahead]
	}
	return made
}
