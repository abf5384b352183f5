package warp

import (
	"sync"

	"lockstep/api"
)

// crew does the letters of one call, in rounds: each actor goes on by itself, then what they sent is posted. What was sent in vain is taken back before anybody reads on, so there are never more letters to be read than were handed in; and the earliest of them are read for good, so there are no more rounds than times. However often actors go back, it costs no more than that.
type crew struct {
	readers     []reader
	end, window int
	slips       []slip // on their way
}

// turn of a reader: how far it may go on in this round.
type turn struct {
	*reader
	limit int
}

func newCrew(rules [][]api.Rule, letters []api.Letter, end, window int) *crew {
	c := &crew{readers: make([]reader, len(rules)), end: end, window: window}
	for i, own := range rules {
		c.readers[i] = reader{self: i, end: end, rules: byKind(own)}
	}
	for i, l := range letters {
		if l.Time <= end {
			c.slips = append(c.slips, slip{mail: &mail{Letter: l, sentAt: handedIn, nth: i}})
		}
	}
	c.post()
	return c
}

// workOff does one round behind the other, till nobody has anything to read. More workers than actors would find nothing to do.
func (c *crew) workOff(workers int) {
	turns := make(chan turn, len(c.readers))
	var all, busy sync.WaitGroup
	workers = min(workers, len(c.readers))
	all.Add(workers)
	for range workers {
		go func() {
			defer all.Done()
			for t := range turns {
				t.goOn(t.limit)
				busy.Done()
			}
		}()
	}
	for due := c.due(); len(due) > 0; due = c.due() {
		busy.Add(len(due))
		for _, t := range due {
			turns <- t
		}
		busy.Wait()
		c.finish(due)
	}
	close(turns)
	all.Wait()
}

// due: those who have something to read that is not too far ahead. What is to be read at the time that is certain never is, so that somebody can go on as long as there is anything.
func (c *crew) due() []turn {
	var due []turn
	limit := min(c.certain()+c.window, c.end)
	for i := range c.readers {
		if r := &c.readers[i]; r.next() <= limit {
			due = append(due, turn{r, limit})
		}
	}
	return due
}

// certain: the earliest time at which anybody has something to read. A letter comes later than it is sent, so what comes up to this time does not change any more.
func (c *crew) certain() int {
	first := c.end
	for i := range c.readers {
		first = min(first, c.readers[i].next())
	}
	return first
}

// finish a round, when all have had their turns: what they sent is posted.
func (c *crew) finish(due []turn) {
	for _, t := range due {
		c.collect(t.reader)
	}
	c.post()
}

// collect what a reader has sent or taken back.
func (c *crew) collect(r *reader) {
	c.slips = append(c.slips, r.out...)
	r.out = r.out[:0]
}

// post the slips, and those that come of it, till there are none. Those of one sender stay in their order, so that nothing is taken back that has not come.
func (c *crew) post() {
	for i := 0; i < len(c.slips); i++ {
		s := c.slips[i]
		to := &c.readers[s.To]
		to.takeIn(s)
		c.collect(to)
	}
	c.slips = c.slips[:0]
}

// many: how many letters have come.
func (c *crew) many() int {
	n := 0
	for i := range c.readers {
		n += len(c.readers[i].book)
	}
	return n
}

// tellNumbers: those of the actors in the end.
func (c *crew) tellNumbers() []int64 {
	numbers := make([]int64, len(c.readers))
	for i := range c.readers {
		numbers[i] = c.readers[i].number
	}
	return numbers
}
