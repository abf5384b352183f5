package lattice

import (
	"sync"
	"sync/atomic"

	"lockstep/api"
)

// stepper is a task on its way: what it has still to do, and what is told of it.
type stepper struct {
	deeds []api.Rise
	at    int
	told  api.Told
}

// crew does the tasks of one call. A task that can go on is in the channel ready, or with one worker; alive counts these. A task that waits is held by no worker: it stands in its cell's list, and comes back by the channel.
type crew struct {
	cells    []cell
	steppers []stepper
	ready    chan int
	alive    atomic.Int64
	frozen   bool
}

// newCrew gives the channel room for every task: a task is in it once at most, so no send ever has to wait.
func newCrew(tasks [][]api.Rise, kinds []int) *crew {
	c := &crew{
		cells:    make([]cell, len(kinds)),
		steppers: make([]stepper, len(tasks)),
		ready:    make(chan int, len(tasks)),
	}
	for i, kind := range kinds {
		c.cells[i].value = firstOf(kind)
	}
	for i, deeds := range tasks {
		c.steppers[i].deeds = deeds
	}
	return c
}

// workOff lets all tasks go as far as they can.
func (c *crew) workOff(workers int) {
	var all sync.WaitGroup
	all.Add(workers)
	for range workers {
		go func() {
			defer all.Done()
			c.work()
		}()
	}
	c.handOutAll()
	all.Wait()
}

// work takes tasks till all is over.
func (c *crew) work() {
	for task := range c.ready {
		c.advance(task)
		c.stop()
	}
}

// handOutAll counts its caller among those alive meanwhile, so that the number comes to 0 behind the last task only, and also if there is none.
func (c *crew) handOutAll() {
	c.alive.Add(1)
	for task := range c.steppers {
		c.handOut(task)
	}
	c.stop()
}

// handOut counts the task ahead of sending it; its caller is still counted, so the number can't have come to 0.
func (c *crew) handOut(task int) {
	c.alive.Add(1)
	c.ready <- task
}

// stop counts off one that has ended, or waits. When nobody is alive nobody will join any more: the cells are frozen, and all tasks are looked at once again. When nobody is alive behind that all is over. It is the last one alive that freezes: no other is at work then, and who takes a task from the channel later on finds the cells frozen.
func (c *crew) stop() {
	switch {
	case c.alive.Add(-1) > 0:
	case c.frozen:
		close(c.ready)
	default:
		c.frozen = true
		c.handOutAll()
	}
}

// advance does the task's deeds as far as it can go. Behind a deed that was not done the task may be another worker's already: it is not touched any more.
func (c *crew) advance(task int) {
	s := &c.steppers[task]
	for s.at < len(s.deeds) {
		if !c.do(task) {
			return
		}
		s.at++
	}
	s.told.Done = true
}

// do answers whether the task's next deed could be done.
func (c *crew) do(task int) bool {
	if c.frozen {
		return c.doFrozen(task)
	}
	return c.doRising(task)
}

// doRising does a deed while cells may still rise: a Read is not done yet. Who comes to one needs no list to stand in, for all tasks are handed out again when the cells are frozen.
func (c *crew) doRising(task int) bool {
	s := &c.steppers[task]
	d := s.deeds[s.at]
	switch d.Kind {
	case api.Join:
		for _, woken := range c.cells[d.Cell].join(d.N) {
			c.handOut(woken)
		}
		return true
	case api.Wait:
		return c.cells[d.Cell].wait(task, d.N)
	}
	return false
}

// doFrozen does a deed when all cells are frozen: no cell changes here, and nobody is put among the waiting, so no order of the tasks is to be seen.
func (c *crew) doFrozen(task int) bool {
	s := &c.steppers[task]
	d := s.deeds[s.at]
	v := c.cells[d.Cell].look()
	if d.Kind == api.Read {
		s.told.Sum = 31*s.told.Sum + number(v)
		return true
	}
	return v.reached(d.N)
}

// tellTasks: what came of each task.
func (c *crew) tellTasks() []api.Told {
	told := make([]api.Told, len(c.steppers))
	for i := range c.steppers {
		told[i] = c.steppers[i].told
	}
	return told
}

// tellCells: the number of each cell.
func (c *crew) tellCells() []int64 {
	numbers := make([]int64, len(c.cells))
	for i := range c.cells {
		numbers[i] = number(c.cells[i].look())
	}
	return numbers
}
