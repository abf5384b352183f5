package flow

import (
	"sync"
	"sync/atomic"

	"lockstep/api"
)

// crew is a network at work. A node that can go on is in the channel ready, or with one worker; alive counts these. A node that waits stands in the pipe where nothing has come yet, and holds no worker.
type crew struct {
	pipes    []pipe
	steppers []stepper
	ready    chan int
	alive    atomic.Int64
}

// newCrew gives the channel room for every node: a node is in it once at most, so no send ever has to wait.
func newCrew(l []api.Node, channels, limit int) *crew {
	c := &crew{
		pipes:    make([]pipe, channels),
		steppers: make([]stepper, len(l)),
		ready:    make(chan int, len(l)),
	}
	for i := range c.pipes {
		c.pipes[i].limit, c.pipes[i].waiting = limit, nobody
	}
	for i, node := range l {
		c.steppers[i].Node = node
	}
	return c
}

// workOff lets all nodes go as far as they can. It counts itself among those alive while it hands them out, so that the channel is closed behind the last one, and also if there is none.
func (c *crew) workOff(workers int) {
	var all sync.WaitGroup
	all.Add(workers)
	for range workers {
		go func() {
			defer all.Done()
			c.work()
		}()
	}
	c.alive.Add(1)
	for node := range c.steppers {
		c.handOut(node)
	}
	c.stop()
	all.Wait()
}

// work takes nodes till none can go on.
func (c *crew) work() {
	for node := range c.ready {
		c.advance(node)
		c.stop()
	}
}

// handOut counts the node ahead of sending it; its caller is still counted, so the number can't have come to 0.
func (c *crew) handOut(node int) {
	c.alive.Add(1)
	c.ready <- node
}

// stop counts off one that is at its end, or waits, or found a channel full. When nobody is alive nobody will write any more either, so all is over.
func (c *crew) stop() {
	if c.alive.Add(-1) == 0 {
		close(c.ready)
	}
}

// advance lets the node go as far as it can. Behind a read that found nothing the node may be another worker's already: it is not touched any more.
func (c *crew) advance(node int) {
	s := &c.steppers[node]
next:
	if s.listed < len(s.List) {
		s.listed++
		if c.write(s.List[s.listed-1], s.Out) {
			goto next
		}
		return
	}
	if s.atEnd() {
		return
	}
	x, came := c.pipes[s.in()].next(node)
	if came && c.write(s.take(x)) {
		goto next
	}
}

// write answers whether the channels had room; a node that found one without is never handed out again. Whoever waited for the number can go on.
func (c *crew) write(x int64, outs []int) bool {
	for _, out := range outs {
		woken, taken := c.pipes[out].write(x)
		if !taken {
			return false
		}
		if woken != nobody {
			c.handOut(woken)
		}
	}
	return true
}

// tell: all that was ever written, by channels. Each list grew by itself, and shares nothing with another.
func (c *crew) tell() [][]int64 {
	told := make([][]int64, len(c.pipes))
	for i := range c.pipes {
		told[i] = c.pipes[i].numbers
	}
	return told
}
