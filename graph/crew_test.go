package graph

import (
	"slices"
	"testing"

	"lockstep/api"
)

// mesh: jobs in layers, of which each waits for several of the layer ahead, one of them twice.
func mesh() []api.Job {
	var l []api.Job
	for i := range 40 {
		j := api.Job{Length: 1, N: int64(i)}
		if layer := i / 8 * 8; layer > 0 {
			j.After = []int{layer - 8 + (i+3)%8, layer - 8 + i%8, layer - 8 + (i+3)%8, layer - 8 + (i*5+1)%8}
		}
		l = append(l, j)
	}
	return l
}

// takeAll that stand in the channel by now.
func takeAll(ready chan int) []int {
	var taken []int
	for len(ready) > 0 {
		taken = append(taken, <-ready)
	}
	return taken
}

// byOrder does all jobs, always one of those that are ready, which is said here and not left to the schedule. It answers the order in which they were done.
func byOrder(c *crew, choose func(ready []int) int) []int {
	var ready, done []int
	for {
		ready = append(ready, takeAll(c.ready)...)
		if len(ready) == 0 {
			return done
		}
		at := choose(ready)
		job := ready[at]
		ready = slices.Delete(ready, at, at+1)
		c.do(job)
		done = append(done, job)
	}
}

func TestP20RunWhoeverIsFirst(t *testing.T) {
	l := mesh()
	want, _ := Run(l, 4)
	for what, choose := range map[string]func([]int) int{
		"the first one": func([]int) int { return 0 },
		"the last one":  func(ready []int) int { return len(ready) - 1 },
		"one between":   func(ready []int) int { return len(ready) / 2 },
		"the least one": func(ready []int) int { return slices.Index(ready, slices.Min(ready)) },
		"the greatest":  func(ready []int) int { return slices.Index(ready, slices.Max(ready)) },
	} {
		c := newCrew(l)
		done := byOrder(c, choose)
		if !slices.Equal(c.numbers, want) {
			t.Error(what, c.numbers, want)
		}
		slices.Sort(done)
		if len(done) != len(l) || len(slices.Compact(done)) != len(l) {
			t.Error(what, "each job is done once:", done)
		}
		if _, open := <-c.ready; open {
			t.Error(what, "the channel is not closed")
		}
	}
}

// Jobs that do not wait for one another stand in the channel at one time, so that different workers may have them; one that waits comes when the last one that it waits for is done, and not ahead of that.
func TestP20RunWhatIsHandedOut(t *testing.T) {
	l := []api.Job{{N: 1}, {N: 2}, {N: 3, After: []int{0, 1, 0}}, {N: 4, After: []int{1}}, {N: 5, After: []int{2, 3}}, {N: 6}}
	c := newCrew(l)
	if at := takeAll(c.ready); !slices.Equal(at, []int{0, 1, 5}) {
		t.Error("at first:", at)
	}
	for _, step := range []struct {
		do   int
		then []int
	}{{0, nil}, {1, []int{2, 3}}, {3, nil}, {5, nil}, {2, []int{4}}} {
		c.do(step.do)
		if at := takeAll(c.ready); !slices.Equal(at, step.then) {
			t.Error("behind", step.do, at)
		}
	}
	if c.undone.Load() != 1 {
		t.Error("undone:", c.undone.Load())
	}
}
