package lattice

import "sync"

// waiter is a task that waits, and for what.
type waiter struct {
	task int
	n    int64
}

// cell has its own lock, so that tasks over different cells are not in each other's way.
type cell struct {
	sync.Mutex
	value   value
	waiting []waiter
}

// look: what the cell has now.
func (c *cell) look() value {
	c.Lock()
	defer c.Unlock()
	return c.value
}

// wait answers whether n has been reached. If not, the task is put among those that wait under the same lock, so that no Join can slip in between and leave it asleep.
func (c *cell) wait(task int, n int64) bool {
	c.Lock()
	defer c.Unlock()
	if c.value.reached(n) {
		return true
	}
	c.waiting = append(c.waiting, waiter{task, n})
	return false
}

// join answers the tasks that waited for what has been reached by now. They wait no more: each is woken once.
func (c *cell) join(n int64) (woken []int) {
	c.Lock()
	defer c.Unlock()
	if c.value.reached(n) {
		return nil
	}
	c.value = c.value.joined(n)
	still := c.waiting[:0]
	for _, w := range c.waiting {
		if c.value.reached(w.n) {
			woken = append(woken, w.task)
		} else {
			still = append(still, w)
		}
	}
	c.waiting = still
	return woken
}
