package scan_test

import (
	"runtime"
	"slices"
	"sync"
	"testing"
	"time"

	"lockstep/api"
	"lockstep/scan"
)

// callAll of the package, on lists that do not matter to the one that asks.
func callAll(l []int64, pairs []api.Pair, workers int) {
	for _, op := range []int{api.OpSum, api.OpMax, api.OpLast, api.OpSteps, 0} {
		scan.Scan(l, op, workers)
		scan.Reduce(l, op, workers)
	}
	scan.Pack(l, 3, 1, workers)
	scan.Sort(pairs, workers)
	scan.Count(l, 10, workers)
}

// pairsOf: each number as a key, its place as the value.
func pairsOf(l []int64) []api.Pair {
	made := make([]api.Pair, len(l))
	for i, n := range l {
		made[i] = api.Pair{Key: n, Val: int64(i)}
	}
	return made
}

// goroutines: how many there are. runtime.NumGoroutine is not asked: it adds up numbers that change meanwhile, and may be wrong by dozens; a profile stops all others while it counts, even one for which there is no room.
func goroutines() int {
	n, _ := runtime.GoroutineProfile(make([]runtime.StackRecord, 1))
	return n
}

// settled: how many goroutines there are, when those that are just leaving have been given time to do so.
func settled(want int) int {
	n := goroutines()
	for range 5000 {
		if n <= want {
			break
		}
		time.Sleep(time.Millisecond)
		n = goroutines()
	}
	return n
}

// watch counts goroutines, its own too, till it is over, and then tells the greatest number.
func watch(over <-chan struct{}, seen chan<- int) {
	most := 0
	for {
		select {
		case <-over:
			seen <- most
			return
		default:
			most = max(most, goroutines())
		}
	}
}

func TestP1GoroutinesHaveEnded(t *testing.T) {
	before := goroutines()
	d := dice(6)
	l := d.numbers(1000)
	for range 50 {
		callAll(l, pairsOf(l), api.MaxWorkers)
		callAll(nil, nil, api.MaxWorkers)
		callAll(l, pairsOf(l), 0)
	}
	if after := settled(before); after > before {
		t.Error("goroutines are left:", after-before)
	}
}

// mostDuring: how many goroutines there are at most beside the test's own, as far as one who looks on from beside can see: some may be missed, but there are never fewer than are seen.
func mostDuring(do func()) int {
	over, seen := make(chan struct{}), make(chan int)
	before := goroutines() + 1
	go watch(over, seen)
	for range 5 {
		do()
		settled(before)
	}
	close(over)
	return <-seen - before
}

// Those of a call's first round may still be leaving when the next one begins.
func TestP7P8NoMorePartsThanWorkers(t *testing.T) {
	const workers = 2
	d := dice(7)
	l := d.numbers(api.MaxItems)
	pairs := pairsOf(l)
	calls := []struct {
		what   string
		rounds int
		do     func()
	}{
		{"Scan", 2, func() { scan.Scan(l, api.OpSteps, workers) }},
		{"Reduce", 1, func() { scan.Reduce(l, api.OpSteps, workers) }},
		{"Pack", 2, func() { scan.Pack(l, 3, 1, workers) }},
		{"Sort", 2, func() { scan.Sort(pairs, workers) }},
		{"Count", 1, func() { scan.Count(l, 1000, workers) }},
	}
	for _, c := range calls {
		if most := mostDuring(c.do); most > c.rounds*workers {
			t.Error("too many goroutines at a time:", c.what, most)
		}
	}
}

// marked: the list with marks in the room behind it.
func marked[T any](l []T, mark T) []T {
	return append(slices.Clone(l), mark, mark, mark)[:len(l)]
}

func TestP2NothingIsChangedOrKept(t *testing.T) {
	d := dice(8)
	for _, length := range []int{0, 1, 2, 5, 40, 1000} {
		numbers := d.numbers(length)
		l, pairs := marked(numbers, -7), marked(pairsOf(numbers), api.Pair{Key: -7, Val: -7})
		first, second := slices.Clone(l[:length+3]), slices.Clone(pairs[:length+3])
		for workers := 1; workers <= api.MaxWorkers; workers++ {
			callAll(l, pairs, workers)
			if !slices.Equal(l[:length+3], first) || !slices.Equal(pairs[:length+3], second) {
				t.Fatal("changed by so many workers, of so many items:", workers, length)
			}
		}
	}
	l, pairs := []int64{3, 1, 2}, []api.Pair{{Key: 3}, {Key: 1}, {Key: 2}}
	hold(t, "first", api.OpSum, l, []int64{3, 4, 6})
	holdSort(t, "first", pairs, []api.Pair{{Key: 1}, {Key: 2}, {Key: 3}})
	l[0], pairs[0].Key = 5, 0
	hold(t, "as it is now", api.OpSum, l, []int64{5, 6, 8})
	holdSort(t, "as it is now", pairs, []api.Pair{{Key: 0}, {Key: 1}, {Key: 2}})
}

// spoil writes over a list and all the room behind it.
func spoil[T any](l []T, mark T) {
	l = l[:cap(l)]
	for i := range l {
		l[i] = mark
	}
}

func TestP2AnswersAreNewMemory(t *testing.T) {
	d := dice(9)
	for _, length := range []int{1, 2, 40, 1000} {
		numbers := d.numbers(length)
		l, pairs := marked(numbers, -7), marked(pairsOf(numbers), api.Pair{Key: -7})
		first, second := slices.Clone(l[:length+3]), slices.Clone(pairs[:length+3])
		for workers := 1; workers <= api.MaxWorkers; workers++ {
			scanned, _ := scan.Scan(l, api.OpMax, workers)
			packed, _ := scan.Pack(l, 1, 0, workers)
			sorted, _ := scan.Sort(pairs, workers)
			counts, _ := scan.Count(l, 4, workers)
			spoil(scanned, 99)
			spoil(packed, 98)
			spoil(sorted, api.Pair{Key: 97})
			spoil(counts, 96)
			if !slices.Equal(l[:length+3], first) || !slices.Equal(pairs[:length+3], second) {
				t.Fatal("what was handed in is shared, by so many workers, of so many items:", workers, length)
			}
		}
	}
}

func TestP2CallsSideBySide(t *testing.T) {
	d := dice(10)
	l := d.numbers(3000)
	pairs := pairsOf(l)
	scanned, sorted, chosen, counts := meaning(api.OpSteps, l), ordered(pairs), packed(l, 2, 1), counted(l, 9)
	var all sync.WaitGroup
	for workers := 1; workers <= 8; workers++ {
		all.Go(func() {
			for range 20 {
				a, _ := scan.Scan(l, api.OpSteps, workers)
				b, _ := scan.Sort(pairs, workers)
				c, _ := scan.Pack(l, 2, 1, workers)
				e, _ := scan.Count(l, 9, workers)
				if !slices.Equal(a, scanned) || !slices.Equal(b, sorted) || !slices.Equal(c, chosen) || !slices.Equal(e, counts) {
					t.Error("another answer, by so many workers:", workers)
				}
			}
		})
	}
	all.Wait()
}
