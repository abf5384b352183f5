package txn

import (
	"sync"
	"sync/atomic"

	"lockstep/api"
)

// crew does the transactions of one call. Each is tried ahead of its turn, over whatever numbers the places have meanwhile; when its turn has come it is settled. Only who settles writes to the places, and only one settles at a time.
type crew struct {
	places []atomic.Int64
	trials []trial
	turn   atomic.Int64 // whose turn it is: all ahead of it have been settled
}

// newCrew: what start says is taken into places of the call's own.
func newCrew(l [][]api.TxDeed, start []int64) *crew {
	c := &crew{
		places: make([]atomic.Int64, len(start)),
		trials: make([]trial, len(l)),
	}
	for i, number := range start {
		c.places[i].Store(number)
	}
	for i, deeds := range l {
		t := &c.trials[i]
		t.deeds, t.seen, t.written = deeds, map[int]sight{}, map[int]int64{}
	}
	return c
}

// workOff lets so many workers take the transactions from a channel, in their order. The channel has room for all of them, and is closed ahead of the work.
func (c *crew) workOff(workers int) {
	ready := make(chan int, len(c.trials))
	for i := range c.trials {
		ready <- i
	}
	close(ready)
	var all sync.WaitGroup
	all.Add(workers)
	for range workers {
		go func() {
			defer all.Done()
			for i := range ready {
				c.do(i)
			}
		}()
	}
	all.Wait()
}

// do tries a transaction, and then settles all that can be. If its own turn has not come it is left to the worker who settles the one ahead of it: nobody stands and waits for a turn.
func (c *crew) do(i int) {
	t := &c.trials[i]
	t.try(c.places)
	t.waits.Store(true)
	for {
		next := c.take()
		if next == nil {
			return
		}
		c.settle(next)
		c.turn.Add(1)
	}
}

// take answers the transaction whose turn it is, if it waits for it, to one worker alone. Who gets none may go: either that one is still being tried, or another worker settles it; and each of these asks again behind it.
func (c *crew) take() *trial {
	turn := int(c.turn.Load())
	if turn == len(c.trials) || !c.trials[turn].waits.CompareAndSwap(true, false) {
		return nil
	}
	return &c.trials[turn]
}

// settle tries a transaction again if one ahead of it has written what it had read. In its turn nobody else writes, so what it sees now holds.
func (c *crew) settle(t *trial) {
	if !t.holds(c.places) {
		t.try(c.places)
	}
	t.write(c.places)
}

// tellTrials: what came of each transaction.
func (c *crew) tellTrials() []api.TxTold {
	told := make([]api.TxTold, len(c.trials))
	for i := range c.trials {
		told[i] = c.trials[i].tell()
	}
	return told
}

// tellPlaces: the numbers in the end.
func (c *crew) tellPlaces() []int64 {
	numbers := make([]int64, len(c.places))
	for i := range c.places {
		numbers[i] = c.places[i].Load()
	}
	return numbers
}
