package phase

import "sync"

// gate at which so many wait for one another, again and again.
type gate struct {
	sync.Mutex
	many int
	away int
	open chan struct{}
}

func newGate(many int) *gate {
	return &gate{many: many, away: many, open: make(chan struct{})}
}

// pass when all have come. The last one does what is to be done between, alone: all others stand still till then.
func (g *gate) pass(between func()) {
	open, last := g.come()
	if last {
		between()
		close(open)
	}
	<-open
}

// come counts one more. The last one sets the gate up anew, because whoever is let through may be at the gate again ahead of those who have not yet left it.
func (g *gate) come() (open chan struct{}, last bool) {
	g.Lock()
	defer g.Unlock()
	open = g.open
	g.away--
	if g.away > 0 {
		return open, false
	}
	g.away, g.open = g.many, make(chan struct{})
	return open, true
}
