package pool

import (
	"sync"
	"sync/atomic"

	"lockstep/api"
)

// crew works out one tree. Of each node there is its number, once it is known, and how many of its kids are left. There is one entry in queued for each node that stands in a deque and is not promised to a worker yet: so a worker without work sleeps, and one that has an entry will find a node.
type crew struct {
	nodes   []node
	numbers []int64
	left    []atomic.Int64
	deques  []deque
	queued  chan struct{}
	end     sync.Once
}

// newCrew gives the channel room for every node: each is queued once at most, so no send ever has to wait.
func newCrew(nodes []node, workers int) *crew {
	c := &crew{
		nodes:   nodes,
		numbers: make([]int64, len(nodes)),
		left:    make([]atomic.Int64, len(nodes)),
		deques:  make([]deque, workers),
		queued:  make(chan struct{}, len(nodes)),
	}
	for at := range nodes {
		c.left[at].Store(int64(len(nodes[at].tree.Kids)))
	}
	return c
}

// workOff answers the root's number.
func (c *crew) workOff() int64 {
	c.queue(0, 0)
	var all sync.WaitGroup
	all.Add(len(c.deques))
	for me := range c.deques {
		go func() {
			defer all.Done()
			c.work(me)
		}()
	}
	all.Wait()
	return c.numbers[0]
}

// work takes nodes till the root is worked out.
func (c *crew) work(me int) {
	for range c.queued {
		c.join(c.fork(me, c.find(me)))
	}
}

// queue lays the node down ahead of saying so, so that there are never fewer nodes than entries.
func (c *crew) queue(me, at int) {
	c.deques[me].push(at)
	c.queued <- struct{}{}
}

// find takes a node, the worker's own if it has one. It may have to look round again, if another has taken the one that was there and laid new ones where this worker has been; that comes to pass no more often than there are nodes.
func (c *crew) find(me int) int {
	for {
		if at, ok := c.deques[me].takeBack(); ok {
			return at
		}
		for i := 1; i < len(c.deques); i++ {
			if at, ok := c.deques[(me+i)%len(c.deques)].takeFront(); ok {
				return at
			}
		}
	}
}

// fork goes down by the first kids, to a node without any, and queues all other kids on its way. They are pushed from the right, so that this worker goes on with the leftmost.
func (c *crew) fork(me, at int) int {
	for len(c.nodes[at].tree.Kids) > 0 {
		first := c.nodes[at].first
		for i := len(c.nodes[at].tree.Kids) - 1; i > 0; i-- {
			c.queue(me, first+i)
		}
		at = first
	}
	return at
}

// join works out a node whose kids all are, and goes up while it was the last one that its parent waited for. By the count alone the last one knows that the others' numbers are there.
func (c *crew) join(at int) {
	for {
		c.numbers[at] = c.number(at)
		parent := c.nodes[at].parent
		if parent < 0 {
			c.end.Do(func() { close(c.queued) })
			return
		}
		if c.left[parent].Add(-1) > 0 {
			return
		}
		at = parent
	}
}

// number of a node, of whose kids it is known.
func (c *crew) number(at int) int64 {
	n := &c.nodes[at]
	kids := c.numbers[n.first : n.first+len(n.tree.Kids)]
	switch n.tree.Kind {
	case api.Leaf:
		return n.tree.N
	case api.Chain:
		return chain(kids)
	}
	return fold(n.tree.Kind, kids)
}

// chain: each hangs on where it stands.
func chain(numbers []int64) int64 {
	made := int64(7)
	for _, n := range numbers {
		made = 31*made + n
	}
	return made
}

// fold begins with the first one: from 0 on the greatest of numbers below 0 would come out wrong.
func fold(kind int, numbers []int64) int64 {
	if len(numbers) == 0 {
		return 0
	}
	made := numbers[0]
	for _, n := range numbers[1:] {
		switch kind {
		case api.Plus:
			made += n
		case api.Minus:
			made -= n
		case api.Most:
			made = max(made, n)
		}
	}
	return made
}
