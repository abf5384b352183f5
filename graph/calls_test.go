package graph_test

import (
	"runtime"
	"slices"
	"sync"
	"testing"
	"time"

	"lockstep/api"
	"lockstep/graph"
)

// goroutines: how many there are. runtime.NumGoroutine is not asked: it adds up numbers that change meanwhile, and may be wrong by dozens; a profile stops all others while it counts, even one for which there is no room.
func goroutines() int {
	n, _ := runtime.GoroutineProfile(make([]runtime.StackRecord, 1))
	return n
}

// settled: how many goroutines there are, when those that are just leaving have been given time to do so.
func settled(want int) int {
	n := goroutines()
	for range 5000 {
		if n <= want {
			break
		}
		time.Sleep(time.Millisecond)
		n = goroutines()
	}
	return n
}

// watch counts goroutines, its own too, till it is over, and then tells the greatest number.
func watch(over <-chan struct{}, seen chan<- int) {
	most := 0
	for {
		select {
		case <-over:
			seen <- most
			return
		default:
			most = max(most, goroutines())
		}
	}
}

// mostDuring: how many goroutines there are at most beside the test's own, as far as one who looks on from beside can see: some may be missed, but there are never fewer than are seen.
func mostDuring(do func()) int {
	over, seen := make(chan struct{}), make(chan int)
	before := goroutines() + 1
	go watch(over, seen)
	for range 50 {
		do()
		settled(before)
	}
	close(over)
	return <-seen - before
}

func TestP20RunNoMoreThanWorkers(t *testing.T) {
	const workers = 2
	l := dense(api.MaxTasks)
	if most := mostDuring(func() { graph.Run(l, workers) }); most > workers {
		t.Error("too many goroutines at a time:", most)
	}
}

func TestP20RunSideBySide(t *testing.T) {
	l := dense(api.MaxTasks)
	for range 30 {
		if mostDuring(func() { graph.Run(l, api.MaxWorkers) }) > 1 {
			return
		}
	}
	t.Error("never more than one goroutine at a time")
}

func TestP1GoroutinesHaveEnded(t *testing.T) {
	before := goroutines()
	all := [][]api.Job{nil, loose(1), loose(api.MaxTasks), row(api.MaxTasks), dense(50), ring(3), loose(api.MaxTasks + 1), {{}}}
	for range 50 {
		for _, l := range all {
			graph.Run(l, api.MaxWorkers)
			graph.Run(l, api.MaxWorkers+1)
			graph.Plan(l, api.MaxWorkers)
			graph.Span(l)
			graph.Check(l)
		}
	}
	if after := settled(before); after > before {
		t.Error("goroutines are left:", after-before)
	}
}

// marked: the list with marks in the room behind it.
func marked[T any](l []T, mark T) []T {
	return append(slices.Clone(l), mark, mark, mark)[:len(l)]
}

func sameJob(a, b api.Job) bool {
	return a.Length == b.Length && a.Urgent == b.Urgent && a.N == b.N && slices.Equal(a.After, b.After)
}

// callAll of the package's calls.
func callAll(l []api.Job) {
	graph.Check(l)
	graph.Span(l)
	for workers := 0; workers <= api.MaxWorkers; workers++ {
		graph.Run(l, workers)
		graph.Plan(l, workers)
	}
}

// rooms: the jobs, and each After, with the marks behind it.
func rooms(l []api.Job) []api.Job {
	all := slices.Clone(l[:len(l)+3])
	for i := range l {
		all[i].After = slices.Clone(l[i].After[:len(l[i].After)+3])
	}
	return all
}

func TestP2NothingIsChanged(t *testing.T) {
	d := dice(5)
	thrown := [][]api.Job{ring(3), {job(1), job(2, 5)}}
	for range 50 {
		thrown = append(thrown, d.jobs(d.below(20), 5, 9, 4))
	}
	for _, jobs := range thrown {
		l := marked(jobs, api.Job{Length: -7})
		for i := range l {
			l[i].After = marked(l[i].After, -7)
		}
		was := rooms(l)
		callAll(l)
		if !slices.EqualFunc(rooms(l), was, sameJob) {
			t.Fatal("changed:", rooms(l), was)
		}
	}
}

func TestP2NothingIsKept(t *testing.T) {
	l := []api.Job{job(5), job(1, 0)}
	hold(t, "first", l, []int64{5, 36})
	l[0].N, l[0].Length, l[1].After[0], l[0].After = 8, 3, 0, nil
	hold(t, "as it is now", l, []int64{8, 39})
	if slots, end, _ := graph.Plan(l, 2); end != 4 || slots[1].Begin != 3 {
		t.Error(slots, end)
	}
	l[0].After, l[1].After = []int{1}, nil
	hold(t, "the other way round", l, []int64{8*31 + 1, 1})
}

func TestP2AnswersAreNewMemory(t *testing.T) {
	l := []api.Job{long(2), long(3), long(1, 0)}
	l[0].N = 4
	numbers, _ := graph.Run(l, 2)
	numbersToo, _ := graph.Run(l, 2)
	slots, _, _ := graph.Plan(l, 2)
	slotsToo, _, _ := graph.Plan(l, 2)
	clear(numbers[:cap(numbers)])
	clear(slots[:cap(slots)])
	wantSlots := []api.Slot{{}, {Worker: 1}, {Begin: 2}}
	if !slices.Equal(numbersToo, []int64{4, 0, 4}) || !slices.Equal(slotsToo, wantSlots) {
		t.Error("two answers share memory:", numbersToo, slotsToo)
	}
	hold(t, "behind spoilt answers", l, []int64{4, 0, 4})
	if slots, end, _ := graph.Plan(l, 2); end != 3 || !slices.Equal(slots, wantSlots) {
		t.Error("behind spoilt answers:", slots, end)
	}
}

// One list may be the After of several jobs, and be used by other calls meanwhile.
func TestP2CallsSideBySide(t *testing.T) {
	d := dice(6)
	l := d.jobs(60, 5, 9, 4)
	for range 60 {
		l = append(l, api.Job{Length: 1, N: 1, After: l[d.below(60)].After})
	}
	wantNumbers := meaning(l)
	wantSlots, wantEnd := byWords(l, 3)
	var calls sync.WaitGroup
	for workers := 1; workers <= 8; workers++ {
		calls.Go(func() {
			for range 20 {
				if numbers, err := graph.Run(l, workers); err != api.OK || !slices.Equal(numbers, wantNumbers) {
					t.Error(workers, numbers, err)
				}
				if slots, end, err := graph.Plan(l, 3); err != api.OK || end != wantEnd || !slices.Equal(slots, wantSlots) {
					t.Error(slots, end, err)
				}
			}
		})
	}
	calls.Wait()
}
