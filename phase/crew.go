package phase

import (
	"slices"
	"sync"
	"sync/atomic"

	"lockstep/api"
)

// crew does the processes of one call, phase by phase. Whom there is to do in a phase changes only between phases.
type crew struct {
	processes []process
	alive     []*process
	taken     atomic.Int64
	phases    int
}

func newCrew(all [][]api.Do) *crew {
	c := &crew{processes: make([]process, len(all))}
	for i, dos := range all {
		p := &c.processes[i]
		p.left = dos
		if !p.atEnd() {
			c.alive = append(c.alive, p)
		}
	}
	return c
}

// workOff does all phases. More workers than processes would find nothing to do.
func (c *crew) workOff(workers int) {
	workers = min(workers, len(c.alive))
	g := newGate(workers)
	var all sync.WaitGroup
	all.Add(workers)
	for range workers {
		go func() {
			defer all.Done()
			c.work(g)
		}()
	}
	all.Wait()
}

// work: a share of each phase, till no process is alive.
func (c *crew) work(g *gate) {
	for len(c.alive) > 0 {
		for p := c.take(); p != nil; p = c.take() {
			p.goOn()
		}
		g.pass(c.endPhase)
	}
}

// take the next process that nobody has in hand; there is none when the phase is over, or soon will be.
func (c *crew) take() *process {
	at := int(c.taken.Add(1)) - 1
	if at >= len(c.alive) {
		return nil
	}
	return c.alive[at]
}

// endPhase: each process that was alive had something left to do, so the phase counts.
func (c *crew) endPhase() {
	c.phases++
	c.deliver()
	c.alive = slices.DeleteFunc(c.alive, (*process).atEnd)
	c.taken.Store(0)
}

// deliver what was sent, by who sent it: that is the order in which the living stand. What comes to one at its end stands there unfolded, and so is lost.
func (c *crew) deliver() {
	for _, p := range c.alive {
		for _, s := range p.sent {
			to := &c.processes[s.to]
			to.come = append(to.come, s.n)
		}
		p.sent = p.sent[:0]
	}
}

// tell the processes' numbers.
func (c *crew) tell() []int64 {
	numbers := make([]int64, len(c.processes))
	for i := range c.processes {
		numbers[i] = c.processes[i].number
	}
	return numbers
}
