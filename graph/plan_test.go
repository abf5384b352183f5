package graph_test

import (
	"math"
	"slices"
	"testing"

	"lockstep/api"
	"lockstep/graph"
)

// long: a job of a length, behind others.
func long(length int, after ...int) api.Job { return api.Job{Length: length, After: after} }

// urgent: a job of a length and an urgency, behind others.
func urgent(length, urgency int, after ...int) api.Job {
	return api.Job{Length: length, Urgent: urgency, After: after}
}

// timetable is the document's plan, one time behind the other: of each worker till when it is busy, of each job when it ends, once it has begun.
type timetable struct {
	jobs  []api.Job
	busy  []int
	ends  []int
	slots []api.Slot
}

// can: is it not begun, and are its After over by now?
func (p *timetable) can(at, now int) bool {
	return p.ends[at] == 0 && !slices.ContainsFunc(p.jobs[at].After, func(ahead int) bool { return p.ends[ahead] == 0 || p.ends[ahead] > now })
}

// mostUrgent of those that can begin now, if there is one.
func (p *timetable) mostUrgent(now int) (job int, some bool) {
	for at := len(p.jobs) - 1; at >= 0; at-- {
		if p.can(at, now) && (!some || p.jobs[at].Urgent >= p.jobs[job].Urgent) {
			job, some = at, true
		}
	}
	return job, some
}

// byWords: the document's plan.
func byWords(l []api.Job, workers int) ([]api.Slot, int) {
	p := &timetable{jobs: l, busy: make([]int, workers), ends: make([]int, len(l)), slots: make([]api.Slot, len(l))}
	begun := 0
	for now := 0; begun < len(l); now++ {
		for worker := range p.busy {
			if p.busy[worker] > now {
				continue
			}
			job, some := p.mostUrgent(now)
			if !some {
				break
			}
			p.slots[job] = api.Slot{Begin: now, Worker: worker}
			p.ends[job] = now + l[job].Length
			p.busy[worker] = p.ends[job]
			begun++
		}
	}
	return p.slots, slices.Max(append(p.ends, 0))
}

// spanBehind: the longest way that ends with a job, by all ways there are.
func spanBehind(l []api.Job, at int, known []int) int {
	if known[at] > 0 {
		return known[at]
	}
	most := 0
	for _, ahead := range l[at].After {
		most = max(most, spanBehind(l, ahead, known))
	}
	known[at] = most + l[at].Length
	return known[at]
}

// workAndSpan by the document's words.
func workAndSpan(l []api.Job) (work, span int) {
	known := make([]int, len(l))
	for at, j := range l {
		work += j.Length
		span = max(span, spanBehind(l, at, known))
	}
	return work, span
}

// holdPlan: Plan is what the words say, and keeps to its bounds.
func holdPlan(t *testing.T, l []api.Job, workers int) {
	t.Helper()
	slots, end, err := graph.Plan(l, workers)
	wantSlots, wantEnd := byWords(l, workers)
	if err != api.OK || end != wantEnd || !slices.Equal(slots, wantSlots) {
		t.Fatalf("%d workers: %v, %d, error %d, not %v, %d: %v", workers, slots, end, err, wantSlots, wantEnd, l)
	}
	work, span, err := graph.Span(l)
	if wantWork, wantSpan := workAndSpan(l); work != wantWork || span != wantSpan || err != api.OK {
		t.Fatalf("work %d, not %d; span %d, not %d; error %d: %v", work, wantWork, span, wantSpan, err, l)
	}
	if end < span || end*workers < work || end*workers > work+(workers-1)*span {
		t.Fatalf("%d workers: %d in all, of work %d and span %d", workers, end, work, span)
	}
	holdSlots(t, l, slots, workers)
}

// holdSlots: each job begins behind its After, and no worker does two at a time.
func holdSlots(t *testing.T, l []api.Job, slots []api.Slot, workers int) {
	t.Helper()
	ends := func(at int) int { return slots[at].Begin + l[at].Length }
	for at, s := range slots {
		if s.Worker < 0 || s.Worker >= workers {
			t.Fatal("no worker:", at, s)
		}
		for _, ahead := range l[at].After {
			if s.Begin < ends(ahead) {
				t.Fatal("too early:", at, ahead, slots)
			}
		}
		for other := range at {
			if slots[other].Worker == s.Worker && slots[other].Begin < ends(at) && s.Begin < ends(other) {
				t.Fatal("two at a time:", at, other, slots)
			}
		}
	}
}

// planCase: slots has of each job when it begins, and by whom.
type planCase struct {
	what    string
	l       []api.Job
	workers int
	slots   [][2]int
	end     int
}

func (c planCase) isSlots(slots []api.Slot) bool {
	return slices.EqualFunc(slots, c.slots, func(s api.Slot, want [2]int) bool { return s.Begin == want[0] && s.Worker == want[1] })
}

func holdPlans(t *testing.T, cases []planCase) {
	t.Helper()
	for _, c := range cases {
		if slots, end, err := graph.Plan(c.l, c.workers); err != api.OK || end != c.end || !c.isSlots(slots) {
			t.Errorf("%s: %v, %d, error %d, not %v, %d", c.what, slots, end, err, c.slots, c.end)
		}
		holdPlan(t, c.l, c.workers)
	}
}

func TestP21PlanSmall(t *testing.T) {
	holdPlans(t, []planCase{
		{"nothing", nil, 3, nil, 0},
		{"one", []api.Job{long(7)}, 3, [][2]int{{0, 0}}, 7},
		{"the document's example", []api.Job{long(2), long(2), long(1, 0)}, 2, [][2]int{{0, 0}, {0, 1}, {2, 0}}, 3},
		{"one worker", []api.Job{long(2), long(2), long(1, 0)}, 1, [][2]int{{0, 0}, {2, 0}, {4, 0}}, 5},
		{"more workers than jobs", []api.Job{long(2), long(3)}, 16, [][2]int{{0, 0}, {0, 1}}, 3},
		{"the least worker that is free", []api.Job{long(4), long(1), long(2), long(1), long(1), long(9)}, 3, [][2]int{{0, 0}, {0, 1}, {0, 2}, {1, 1}, {2, 1}, {2, 2}}, 11},
		{"the least worker, of two that come free at one time", []api.Job{long(3), long(2), long(2), long(1, 2)}, 3, [][2]int{{0, 0}, {0, 1}, {0, 2}, {2, 1}}, 3},
		{"workers wait for what is not over", []api.Job{long(5), long(1, 0), long(1, 0)}, 3, [][2]int{{0, 0}, {5, 0}, {5, 1}}, 6},
		{"behind one with a greater number", []api.Job{long(1, 2), long(2, 0), long(3)}, 2, [][2]int{{3, 0}, {4, 0}, {0, 0}}, 6},
		{"behind all of its After", []api.Job{long(1), long(5), long(3), long(1, 0, 1, 2)}, 3, [][2]int{{0, 0}, {0, 1}, {0, 2}, {5, 0}}, 6},
		{"one several times in After", []api.Job{long(2), long(1, 0, 0, 0), long(1, 0)}, 2, [][2]int{{0, 0}, {2, 0}, {2, 1}}, 3},
		{"none is held back for one that will be longer", []api.Job{long(1), long(1), long(9, 1)}, 1, [][2]int{{0, 0}, {1, 0}, {2, 0}}, 11},
		{"the last one to end is not the last one to begin", []api.Job{long(9), long(1), long(1, 1)}, 2, [][2]int{{0, 0}, {0, 1}, {1, 1}}, 9},
	})
}

func TestP21PlanUrgent(t *testing.T) {
	holdPlans(t, []planCase{
		{"the most Urgent one first", []api.Job{urgent(2, 0), urgent(2, 1), urgent(1, 0, 0)}, 1, [][2]int{{2, 0}, {0, 0}, {4, 0}}, 5},
		{"below 0", []api.Job{urgent(1, -3), urgent(1, -1), urgent(1, -2)}, 1, [][2]int{{2, 0}, {0, 0}, {1, 0}}, 3},
		{"of one urgency the least number", []api.Job{urgent(1, 5), urgent(1, 7), urgent(1, 5), urgent(1, 7)}, 1, [][2]int{{2, 0}, {0, 0}, {3, 0}, {1, 0}}, 4},
		{"the greatest numbers", []api.Job{urgent(1, math.MinInt), urgent(1, 1), urgent(1, math.MaxInt), urgent(1, -1)}, 1, [][2]int{{3, 0}, {1, 0}, {0, 0}, {2, 0}}, 4},
		{"the most Urgent one has the least worker", []api.Job{urgent(1, 0), urgent(1, 1), urgent(1, 2)}, 3, [][2]int{{0, 2}, {0, 1}, {0, 0}}, 1},
		{"one that waits makes none urgent", []api.Job{urgent(1, 0), urgent(1, 1), urgent(1, 9, 0)}, 1, [][2]int{{1, 0}, {0, 0}, {2, 0}}, 3},
		{"one that has come to be open is ahead of those that were", []api.Job{urgent(2, 9), urgent(1, 0), urgent(1, 0), urgent(1, 1, 0)}, 1, [][2]int{{0, 0}, {3, 0}, {4, 0}, {2, 0}}, 5},
		{"and has the least number", []api.Job{urgent(1, 0, 1), urgent(1, 0), urgent(1, 0), urgent(1, 0)}, 1, [][2]int{{1, 0}, {0, 0}, {2, 0}, {3, 0}}, 4},
		{"one that has begun is not left", []api.Job{urgent(5, 0), urgent(1, 1), urgent(1, 9, 1)}, 2, [][2]int{{0, 1}, {0, 0}, {1, 0}}, 5},
		{"no free worker is kept for it", []api.Job{urgent(1, 0), urgent(5, 0), urgent(5, 0), urgent(1, 9, 0)}, 2, [][2]int{{0, 0}, {0, 1}, {2, 0}, {1, 0}}, 7},
	})
}

// All that ends at a time is over ahead of what begins then: what was open by the first one alone must not take the place of what the last one opens.
func TestP21PlanFirstAllEnd(t *testing.T) {
	holdPlans(t, []planCase{
		{"the last one opens the most Urgent", []api.Job{long(2), long(2), urgent(1, 1, 0), urgent(1, 2, 1)}, 2, [][2]int{{0, 0}, {0, 1}, {2, 1}, {2, 0}}, 3},
		{"one needs both", []api.Job{long(2), long(2), urgent(4, 0, 0), urgent(1, 2, 0, 1), urgent(4, 0, 1)}, 2, [][2]int{{0, 0}, {0, 1}, {2, 1}, {2, 0}, {3, 0}}, 7},
		{"both workers are free", []api.Job{long(1), long(3), long(2, 0), urgent(1, 5, 1)}, 2, [][2]int{{0, 0}, {0, 1}, {1, 0}, {3, 0}}, 4},
	})
}

// Graham's: more workers, and shorter jobs, may take longer.
func TestP21PlanIsNotClever(t *testing.T) {
	jobs := func(less int) []api.Job {
		l := []api.Job{long(3), long(2), long(2), long(2), long(4, 3), long(4, 3), long(4, 3), long(4, 3), long(9, 0)}
		for i := range l {
			l[i].Length -= less
		}
		return l
	}
	for _, c := range []struct{ less, workers, end int }{{0, 3, 12}, {0, 4, 15}, {1, 3, 13}} {
		if _, end, err := graph.Plan(jobs(c.less), c.workers); end != c.end || err != api.OK {
			t.Error(c, end, err)
		}
		holdPlan(t, jobs(c.less), c.workers)
	}
}

func TestP21PlanIsWhatTheWordsSay(t *testing.T) {
	d := dice(3)
	idle, full := 0, 0
	for range 400 {
		l := d.jobs(d.below(20), 1+d.below(4), 1+d.below(9), 1+d.below(4))
		for workers := 1; workers <= api.MaxWorkers; workers++ {
			holdPlan(t, l, workers)
		}
		work, span, _ := graph.Span(l)
		if _, end, _ := graph.Plan(l, 2); 2*end > work+1 {
			idle++
		} else if end > span {
			full++
		}
	}
	if idle < 50 || full < 50 {
		t.Error("the dice throw too few of one kind:", idle, full)
	}
}

func TestP21PlanAtTheLimits(t *testing.T) {
	d := dice(4)
	slow := row(api.MaxTasks)
	for i := range slow {
		slow[i].Length = maxLength
	}
	all := [][]api.Job{loose(api.MaxTasks), row(api.MaxTasks), dense(api.MaxTasks), slow}
	for _, after := range []int{0, 1, 3, api.MaxTasks} {
		all = append(all, d.jobs(api.MaxTasks, after, 20, 5))
	}
	for _, l := range all {
		for _, workers := range []int{1, 2, 7, api.MaxWorkers} {
			holdPlan(t, l, workers)
		}
	}
	if slots, end, err := graph.Plan(slow, 5); end != api.MaxTasks*maxLength || slots[api.MaxTasks-1] != (api.Slot{Begin: end - maxLength}) || err != api.OK {
		t.Error(end, err)
	}
}

func TestP21SpanSmall(t *testing.T) {
	slow := row(api.MaxTasks)
	for i := range slow {
		slow[i].Length = maxLength
	}
	cases := []struct {
		what       string
		l          []api.Job
		work, span int
	}{
		{"nothing", nil, 0, 0},
		{"one", []api.Job{long(7)}, 7, 7},
		{"the document's example", []api.Job{long(2), long(2), long(1, 0)}, 5, 3},
		{"none behind another", []api.Job{long(2), long(5), long(3)}, 10, 5},
		{"one behind the other", []api.Job{long(2), long(5, 0), long(3, 1)}, 10, 10},
		{"one behind the other, backwards", []api.Job{long(2, 1), long(5, 2), long(3)}, 10, 10},
		{"the longest way, not that with the most jobs", []api.Job{long(1), long(1, 0), long(9), long(1, 1, 2), long(1, 1)}, 13, 10},
		{"the longest way is not the last one", []api.Job{long(9), long(9, 0), long(1), long(1, 2)}, 20, 18},
		{"one several times in After", []api.Job{long(4), long(1, 0, 0, 0)}, 5, 5},
		{"two ways to one", []api.Job{long(1), long(2, 0), long(5, 0), long(3, 1, 2)}, 11, 9},
		{"as many as may be", loose(api.MaxTasks), api.MaxTasks, 1},
		{"as many, one behind the other", slow, api.MaxTasks * maxLength, api.MaxTasks * maxLength},
		{"as many, each behind all", dense(api.MaxTasks), api.MaxTasks, api.MaxTasks},
	}
	for _, c := range cases {
		if work, span, err := graph.Span(c.l); work != c.work || span != c.span || err != api.OK {
			t.Error(c.what, work, span, err)
		}
	}
}
