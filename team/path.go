package team

import (
	"sync/atomic"

	"lockstep/laid"
)

// path through a list of statements, on which one worker at a time is. At a statement that has blocks it stays, while others lead through those; no worker waits there: whoever comes to the end of the last one goes on with it.
type path struct {
	list  []laid.Stat
	next  int          // which of them is to be done next
	times int64        // how often it still leads through all of them, this time too
	up    *path        // the one that stays meanwhile; none of the whole program
	open  atomic.Int64 // how many lead through the blocks of the statement at which it stays
}

// ended: is nothing left to be done, this time?
func (p *path) ended() bool { return p.next == len(p.list) }

// into the blocks of the statement at which it stays. How many there are is known ahead of the first being handed out: else one that ends soon might be taken for the last.
func (p *path) into(blocks [][]laid.Stat, times int64) []*path {
	p.open.Store(int64(len(blocks)))
	inner := make([]*path, len(blocks))
	for i, block := range blocks {
		inner[i] = &path{list: block, times: times, up: p}
	}
	return inner
}
