package graph

import (
	"slices"

	"lockstep/api"
)

// nothing is what a free worker does.
const nothing = -1

// plan of one call: the jobs that can begin, of each job its slot, once it has begun, and of each worker what it does.
type plan struct {
	jobs  []api.Job
	waits *waits
	open  []int
	slots []api.Slot
	doing []int
}

func newPlan(l []api.Job, workers int) *plan {
	return &plan{
		jobs:  l,
		waits: newWaits(l),
		open:  free(l),
		slots: make([]api.Slot, len(l)),
		doing: slices.Repeat([]int{nothing}, workers),
	}
}

// goThrough all times at which something ends; between them nothing can begin. It answers the last one.
func (p *plan) goThrough() int {
	now := 0
	for {
		p.finish(now)
		p.begin(now)
		next, some := p.nextEnd()
		if !some {
			return now
		}
		now = next
	}
}

func (p *plan) end(job int) int { return p.slots[job].Begin + p.jobs[job].Length }

// finish all jobs that end now, ahead of any that begins.
func (p *plan) finish(now int) {
	for worker, job := range p.doing {
		if job != nothing && p.end(job) == now {
			p.doing[worker] = nothing
			p.open = append(p.open, p.waits.over(job)...)
		}
	}
}

// begin jobs as long as there are one that can and a free worker.
func (p *plan) begin(now int) {
	for len(p.open) > 0 {
		worker := slices.Index(p.doing, nothing)
		if worker < 0 {
			return
		}
		job := p.takeUrgent()
		p.doing[worker] = job
		p.slots[job] = api.Slot{Begin: now, Worker: worker}
	}
}

// takeUrgent takes out the job that is to begin first.
func (p *plan) takeUrgent() int {
	first := 0
	for i := range p.open {
		if p.ahead(p.open[i], p.open[first]) {
			first = i
		}
	}
	job := p.open[first]
	p.open = slices.Delete(p.open, first, first+1)
	return job
}

// ahead: does a begin ahead of b?
func (p *plan) ahead(a, b int) bool {
	if p.jobs[a].Urgent != p.jobs[b].Urgent {
		return p.jobs[a].Urgent > p.jobs[b].Urgent
	}
	return a < b
}

// nextEnd: when the next job ends, if one is being done.
func (p *plan) nextEnd() (next int, some bool) {
	for _, job := range p.doing {
		if job != nothing && (!some || p.end(job) < next) {
			next, some = p.end(job), true
		}
	}
	return next, some
}
