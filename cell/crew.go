package cell

import (
	"sync"
	"sync/atomic"

	"lockstep/api"
)

// stepper is a task on its way: what it has still to do, and what is told of it.
type stepper struct {
	deeds []api.Deed
	at    int
	told  api.Told
}

// crew does the tasks of one call. A task that waits is held by no worker: it stands in its slot's list, and comes back by the channel.
type crew struct {
	slots    []slot
	steppers []stepper
	ready    chan int
	canGoOn  atomic.Int64
}

// newCrew gives the channel room for every task: a task is in it once at most, so no send ever has to wait.
func newCrew(tasks [][]api.Deed, cells int) *crew {
	c := &crew{
		slots:    make([]slot, cells),
		steppers: make([]stepper, len(tasks)),
		ready:    make(chan int, len(tasks)),
	}
	for i, deeds := range tasks {
		c.steppers[i].deeds = deeds
	}
	return c
}

// workOff does all tasks as far as they can go. It counts itself among those that can go on while it hands them out, so that the channel is closed behind the last one, and also if there is none.
func (c *crew) workOff(workers int) {
	var all sync.WaitGroup
	all.Add(workers)
	for range workers {
		go func() {
			defer all.Done()
			c.work()
		}()
	}
	c.canGoOn.Add(1)
	for task := range c.steppers {
		c.handOut(task)
	}
	c.stop()
	all.Wait()
}

// work takes tasks till none can go on.
func (c *crew) work() {
	for task := range c.ready {
		c.advance(task)
		c.stop()
	}
}

// handOut counts the task ahead of sending it; its caller is still counted, so the number can't have come to 0.
func (c *crew) handOut(task int) {
	c.canGoOn.Add(1)
	c.ready <- task
}

// stop counts off one that has ended, or waits. When nobody can go on nobody will write any more either, so all is over.
func (c *crew) stop() {
	if c.canGoOn.Add(-1) == 0 {
		close(c.ready)
	}
}

// advance does the task's deeds as far as it can go. Behind a take that found nothing the task may be another worker's already: it is not touched any more.
func (c *crew) advance(task int) {
	s := &c.steppers[task]
next:
	if s.at == len(s.deeds) {
		s.told.Done = true
		return
	}
	d := s.deeds[s.at]
	switch d.Kind {
	case api.Take:
		value, written := c.slots[d.Cell].take(task)
		if !written {
			return
		}
		s.told.Sum = 31*s.told.Sum + value
	case api.Give:
		for _, woken := range c.slots[d.Cell].give(s.told.Sum + d.N) {
			c.handOut(woken)
		}
	case api.Set:
		s.told.Sum = d.N
	}
	s.at++
	goto next
}

// tellTasks: what came of each task.
func (c *crew) tellTasks() []api.Told {
	told := make([]api.Told, len(c.steppers))
	for i := range c.steppers {
		told[i] = c.steppers[i].told
	}
	return told
}

// tellCells: what came of each cell.
func (c *crew) tellCells() []api.Told {
	told := make([]api.Told, len(c.slots))
	for i := range c.slots {
		told[i] = c.slots[i].told
	}
	return told
}
