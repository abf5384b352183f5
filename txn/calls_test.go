package txn_test

import (
	"runtime"
	"slices"
	"sync"
	"testing"
	"time"

	"lockstep/api"
	"lockstep/txn"
)

// goroutines: how many there are. runtime.NumGoroutine is not asked: it adds up numbers that change meanwhile, and may be wrong by dozens; a profile stops all others while it counts, even one for which there is no room.
func goroutines() int {
	n, _ := runtime.GoroutineProfile(make([]runtime.StackRecord, 1))
	return n
}

// settled: how many goroutines there are, when those that are just leaving have been given time to do so.
func settled(want int) int {
	n := goroutines()
	for range 5000 {
		if n <= want {
			break
		}
		time.Sleep(time.Millisecond)
		n = goroutines()
	}
	return n
}

// watch counts goroutines, its own too, till it is over, and then tells the greatest number.
func watch(over <-chan struct{}, seen chan<- int) {
	most := 0
	for {
		select {
		case <-over:
			seen <- most
			return
		default:
			most = max(most, goroutines())
		}
	}
}

// mostDuring: how many goroutines there are at most beside the test's own, as far as one who looks on from beside can see: some may be missed, but there are never fewer than are seen.
func mostDuring(do func()) int {
	over, seen := make(chan struct{}), make(chan int)
	before := goroutines() + 1
	go watch(over, seen)
	for range 5 {
		do()
		settled(before)
	}
	close(over)
	return <-seen - before
}

// long: transactions that take long enough to be looked on at.
func long() [][]api.TxDeed {
	return slices.Repeat([][]api.TxDeed{slices.Repeat([]api.TxDeed{get(0), put(1)}, api.MaxOps/2)}, api.MaxTasks)
}

func TestP16RunNoMoreThanWorkers(t *testing.T) {
	const workers = 2
	l := long()
	if most := mostDuring(func() { txn.Run(l, []int64{1, 2}, workers) }); most > workers {
		t.Error("too many goroutines at a time:", most)
	}
}

func TestP16RunSideBySide(t *testing.T) {
	l := long()
	for range 100 {
		if mostDuring(func() { txn.Run(l, []int64{1, 2}, api.MaxWorkers) }) > 1 {
			return
		}
	}
	t.Error("never more than one goroutine at a time")
}

func TestP1GoroutinesHaveEnded(t *testing.T) {
	before := goroutines()
	d := dice(3)
	for range 50 {
		txn.Run(d.throw(5, 20, 8), d.numbers(5), api.MaxWorkers)
		txn.Run(nil, []int64{1}, api.MaxWorkers)
		txn.Run([][]api.TxDeed{{need(1)}, {get(0)}}, []int64{1}, api.MaxWorkers)
		txn.Run([][]api.TxDeed{{{}}}, []int64{1}, api.MaxWorkers)
	}
	if after := settled(before); after > before {
		t.Error("goroutines are left:", after-before)
	}
}

// marked: the list with marks in the room behind it.
func marked[T any](l []T, mark T) []T {
	return append(slices.Clone(l), mark, mark, mark)[:len(l)]
}

// untouched: is the list with its marks as it was?
func untouched[T comparable](l, was []T, mark T) bool {
	return slices.Equal(l[:len(l)+3], append(slices.Clone(was), mark, mark, mark))
}

func TestP2NothingIsChangedOrKept(t *testing.T) {
	d := dice(4)
	mark := api.TxDeed{Kind: -7, Place: -7, N: -7}
	for range 20 {
		startThrown := d.numbers(1 + d.below(6))
		thrown := d.throw(len(startThrown), 10, 8)
		start, l := marked(startThrown, -7), marked(thrown, []api.TxDeed{mark})
		for i, deeds := range thrown {
			l[i] = marked(deeds, mark)
		}
		for workers := 1; workers <= api.MaxWorkers; workers++ {
			txn.Run(l, start, workers)
			txn.Check(l, len(start))
		}
		for i, deeds := range thrown {
			if !untouched(l[i], deeds, mark) {
				t.Fatal("changed:", i, l[i])
			}
		}
		for _, room := range l[len(l) : len(l)+3] {
			if !slices.Equal(room, []api.TxDeed{mark}) {
				t.Fatal("changed behind the transactions:", room)
			}
		}
		if !untouched(start, startThrown, -7) {
			t.Fatal("changed:", start)
		}
	}
	l, start := [][]api.TxDeed{{add(5), put(0)}, {get(0), get(1)}}, []int64{1, 2}
	hold(t, "first", l, start, []api.TxTold{done(5, 0, 1), done(7, 2, 0)}, []int64{5, 2})
	l[0][0], start[1] = add(8), 3
	hold(t, "as it is now", l, start, []api.TxTold{done(8, 0, 1), done(11, 2, 0)}, []int64{8, 3})
}

func TestP2AnswersAreNewMemory(t *testing.T) {
	l, start := [][]api.TxDeed{{add(5), put(0)}, {get(0), get(1)}}, []int64{1, 2}
	wantTold, wantNumbers := []api.TxTold{done(5, 0, 1), done(7, 2, 0)}, []int64{5, 2}
	told, numbers, _ := txn.Run(l, start, 2)
	toldToo, numbersToo, _ := txn.Run(l, start, 2)
	clear(told[:cap(told)])
	clear(numbers[:cap(numbers)])
	if !slices.Equal(toldToo, wantTold) || !slices.Equal(numbersToo, wantNumbers) {
		t.Error("two answers share memory:", toldToo, numbersToo)
	}
	hold(t, "behind spoilt answers", l, start, wantTold, wantNumbers)
	_, numbers, _ = txn.Run(nil, start, 2)
	numbers[0] = 9
	if start[0] != 1 {
		t.Error("the answer is what was handed in:", start)
	}
}

// Lists may stand several times in what is handed in, and be used by others meanwhile.
func TestP2CallsSideBySide(t *testing.T) {
	d := dice(5)
	start := d.numbers(5)
	l := d.throw(5, 40, 8)
	l = append(l, l[:20]...)
	wantTold, wantNumbers := meaning(l, start)
	var calls sync.WaitGroup
	for workers := 1; workers <= 8; workers++ {
		calls.Go(func() {
			for range 20 {
				told, numbers, err := txn.Run(l, start, workers)
				if err != api.OK || !slices.Equal(told, wantTold) || !slices.Equal(numbers, wantNumbers) {
					t.Error(workers, told, numbers, err)
				}
			}
		})
	}
	calls.Wait()
}
