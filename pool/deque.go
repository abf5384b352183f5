package pool

import "sync"

// deque of one worker: nodes that wait to be worked out. The worker itself is at its back; others, who come if they have nothing, are at its front, where the greatest pieces of work stand.
type deque struct {
	lock  sync.Mutex
	nodes []int
}

// push lays a node at the back.
func (d *deque) push(at int) {
	d.lock.Lock()
	defer d.lock.Unlock()
	d.nodes = append(d.nodes, at)
}

// takeBack takes the node that was pushed last, if there is one.
func (d *deque) takeBack() (at int, ok bool) {
	d.lock.Lock()
	defer d.lock.Unlock()
	last := len(d.nodes) - 1
	if last < 0 {
		return 0, false
	}
	at, d.nodes = d.nodes[last], d.nodes[:last]
	return at, true
}

// takeFront takes the node that was pushed first, if there is one.
func (d *deque) takeFront() (at int, ok bool) {
	d.lock.Lock()
	defer d.lock.Unlock()
	if len(d.nodes) == 0 {
		return 0, false
	}
	at, d.nodes = d.nodes[0], d.nodes[1:]
	return at, true
}
