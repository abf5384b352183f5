package pool

import "container/heap"

// plan has the nodes that can be worked out, as a heap, and of each node how many of its kids are left.
type plan struct {
	nodes []node
	left  []int
	open  []int
}

// newPlan opens all nodes without kids.
func newPlan(nodes []node) *plan {
	p := &plan{nodes: nodes, left: make([]int, len(nodes))}
	for at := range nodes {
		p.left[at] = len(nodes[at].tree.Kids)
		if p.left[at] == 0 {
			p.open = append(p.open, at)
		}
	}
	heap.Init(p)
	return p
}

// rounds: how many it takes with so many workers.
func (p *plan) rounds(workers int) int {
	count := 0
	for len(p.open) > 0 {
		p.finish(p.next(workers))
		count++
	}
	return count
}

// next takes the nodes of a round.
func (p *plan) next(workers int) []int {
	var round []int
	for len(round) < workers && len(p.open) > 0 {
		round = append(round, heap.Pop(p).(int))
	}
	return round
}

// finish comes behind the whole round: a parent can't be worked out in the round of its last kid.
func (p *plan) finish(round []int) {
	for _, at := range round {
		parent := p.nodes[at].parent
		if parent < 0 {
			continue
		}
		p.left[parent]--
		if p.left[parent] == 0 {
			heap.Push(p, parent)
		}
	}
}

// Len is what a heap asks for.
func (p *plan) Len() int { return len(p.open) }

// Less: the deepest first, of one depth the leftmost, which stands first among the nodes.
func (p *plan) Less(i, j int) bool {
	a, b := p.open[i], p.open[j]
	if p.nodes[a].depth != p.nodes[b].depth {
		return p.nodes[a].depth > p.nodes[b].depth
	}
	return a < b
}

// Swap is what a heap asks for.
func (p *plan) Swap(i, j int) { p.open[i], p.open[j] = p.open[j], p.open[i] }

// Push is what a heap asks for.
func (p *plan) Push(at any) { p.open = append(p.open, at.(int)) }

// Pop is what a heap asks for.
func (p *plan) Pop() any {
	last := len(p.open) - 1
	at := p.open[last]
	p.open = p.open[:last]
	return at
}
