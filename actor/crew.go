package actor

import (
	"sync"

	"lockstep/api"
)

// crew does the letters of one call, time by time. A letter comes later than it is sent, so all that comes at a time is known when it begins.
type crew struct {
	actors []actor
	times  [][]api.Letter // of each time what comes then: in the order in which it was sent; and behind that time as it came
	many   int            // letters that have come, or are sure to come
}

func newCrew(rules [][]api.Rule, letters []api.Letter, end int) *crew {
	c := &crew{actors: make([]actor, len(rules)), times: make([][]api.Letter, end+1)}
	for i, own := range rules {
		c.actors[i].rules = byKind(own)
	}
	c.post(letters)
	return c
}

// post letters, each to its time. One that would come behind the end never comes.
func (c *crew) post(letters []api.Letter) {
	for _, l := range letters {
		if l.Time < len(c.times) {
			c.times[l.Time] = append(c.times[l.Time], l)
			c.many++
		}
	}
}

func (c *crew) tooMany() bool { return c.many > api.MaxItems }

// workOff does one time behind the other, till the end, or till there are too many letters. More workers than actors would find nothing to do.
func (c *crew) workOff(workers int) {
	ready := make(chan *actor, len(c.actors))
	var all, busy sync.WaitGroup
	workers = min(workers, len(c.actors))
	all.Add(workers)
	for range workers {
		go func() {
			defer all.Done()
			for a := range ready {
				a.readAll()
				busy.Done()
			}
		}()
	}
	for now := 0; now < len(c.times) && !c.tooMany(); now++ {
		for _, a := range c.begin(now) {
			busy.Add(1)
			ready <- a
		}
		busy.Wait()
		c.finish(now)
	}
	close(ready)
	all.Wait()
}

// begin a time: the letters go to their actors. It answers those who have some, who may read them in any order, or side by side.
func (c *crew) begin(now int) []*actor {
	for _, l := range c.times[now] {
		to := &c.actors[l.To]
		to.come = append(to.come, l)
	}
	var due []*actor
	for i := range c.actors {
		if a := &c.actors[i]; len(a.come) > 0 {
			due = append(due, a)
		}
	}
	return due
}

// finish a time, when all have read what came to them: it is put down, and what they sent is posted, both by actor, whoever was the first to read.
func (c *crew) finish(now int) {
	came := c.times[now][:0]
	for i := range c.actors {
		a := &c.actors[i]
		came = append(came, a.come...)
		c.post(a.sent)
		a.come, a.sent = a.come[:0], a.sent[:0]
	}
	c.times[now] = came
}

// tellNumbers: those of the actors in the end.
func (c *crew) tellNumbers() []int64 {
	numbers := make([]int64, len(c.actors))
	for i := range c.actors {
		numbers[i] = c.actors[i].number
	}
	return numbers
}

// tellLog: all letters that came.
func (c *crew) tellLog() []api.Letter {
	log := make([]api.Letter, 0, c.many)
	for _, came := range c.times {
		log = append(log, came...)
	}
	return log
}
