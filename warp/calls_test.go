package warp_test

import (
	"runtime"
	"slices"
	"sync"
	"testing"
	"time"

	"lockstep/actor"
	"lockstep/api"
	"lockstep/warp"
)

// goroutines: how many there are. runtime.NumGoroutine is not asked: it adds up numbers that change meanwhile, and may be wrong by dozens; a profile stops all others while it counts, even one for which there is no room.
func goroutines() int {
	n, _ := runtime.GoroutineProfile(make([]runtime.StackRecord, 1))
	return n
}

// settled: how many goroutines there are, when those that are just leaving have been given time to do so.
func settled(want int) int {
	n := goroutines()
	for range 5000 {
		if n <= want {
			break
		}
		time.Sleep(time.Millisecond)
		n = goroutines()
	}
	return n
}

// watch counts goroutines, its own too, till it is over, and then tells the greatest number.
func watch(over <-chan struct{}, seen chan<- int) {
	most := 0
	for {
		select {
		case <-over:
			seen <- most
			return
		default:
			most = max(most, goroutines())
		}
	}
}

// mostDuring: how many goroutines there are at most beside the test's own, as far as one who looks on from beside can see: some may be missed, but there are never fewer than are seen.
func mostDuring(do func()) int {
	over, seen := make(chan struct{}), make(chan int)
	before := goroutines() + 1
	go watch(over, seen)
	for range 5 {
		do()
		settled(before)
	}
	close(over)
	return <-seen - before
}

// The letters of the chains take long enough to be looked on at.
func TestP19RunNoMoreThanWorkers(t *testing.T) {
	const workers = 2
	rules, letters := chains(100)
	if most := mostDuring(func() { warp.Run(rules, letters, 300, 50, workers) }); most > workers {
		t.Error("too many goroutines at a time:", most)
	}
}

func TestP19RunSideBySide(t *testing.T) {
	rules, letters := chains(100)
	for range 100 {
		if mostDuring(func() { warp.Run(rules, letters, 300, 50, api.MaxWorkers) }) > 1 {
			return
		}
	}
	t.Error("never more than one goroutine at a time")
}

func TestP1GoroutinesHaveEnded(t *testing.T) {
	before := goroutines()
	rules, letters := chains(20)
	manyRules, manyLetters := chains(api.MaxTasks)
	for range 3 {
		warp.Run(manyRules, manyLetters, api.MaxOps, api.MaxOps, api.MaxWorkers)
		for range 10 {
			warp.Run(rules, letters, 20, 5, api.MaxWorkers)
			warp.Run(rules, nil, 20, 5, api.MaxWorkers)
			warp.Run(nil, nil, 20, 5, api.MaxWorkers)
			warp.Run(nil, letters, 20, 5, api.MaxWorkers)
			warp.Run(rules, letters, 20, 0, api.MaxWorkers)
		}
	}
	if after := settled(before); after > before {
		t.Error("goroutines are left:", after-before)
	}
}

// marked: the list with marks in the room behind it.
func marked[T any](l []T, mark T) []T {
	return append(slices.Clone(l), mark, mark, mark)[:len(l)]
}

// untouched: is the list with its marks as it was?
func untouched[T comparable](l, was []T, mark T) bool {
	return slices.Equal(l[:len(l)+3], append(slices.Clone(was), mark, mark, mark))
}

func TestP2NothingIsChangedOrKept(t *testing.T) {
	d := dice(4)
	ruleMark, letterMark := api.Rule{Kind: -7}, api.Letter{Kind: -7}
	for range 20 {
		actors := 1 + d.below(6)
		thrownRules, thrownLetters := d.rules(actors, 4), d.letters(d.below(20), actors, 4, 6)
		rules, letters := marked(thrownRules, []api.Rule{ruleMark}), marked(thrownLetters, letterMark)
		for i, own := range thrownRules {
			rules[i] = marked(own, ruleMark)
		}
		everyWay(func(window, workers int) { warp.Run(rules, letters, 30, window, workers) })
		for i, own := range thrownRules {
			if !untouched(rules[i], own, ruleMark) {
				t.Fatal("changed:", i, rules[i])
			}
		}
		for _, room := range rules[len(rules) : len(rules)+3] {
			if !slices.Equal(room, []api.Rule{ruleMark}) {
				t.Fatal("changed behind the rules:", room)
			}
		}
		if !untouched(letters, thrownLetters, letterMark) {
			t.Fatal("changed:", letters)
		}
	}
	rules, letters := [][]api.Rule{{counts(1)}}, []api.Letter{letter(0, 0, 1, 5)}
	hold(t, "first", everyWay, rules, letters, 3, []int64{5}, api.OK)
	rules[0][0].Plus, letters[0].N = 1, 8
	hold(t, "as it is now", everyWay, rules, letters, 3, []int64{9}, api.OK)
}

func TestP2AnswersAreNewMemory(t *testing.T) {
	rules := [][]api.Rule{{counts(1), sends(2, 1, 0, 1)}, {counts(1)}}
	letters := []api.Letter{letter(0, 0, 1, 5), letter(0, 0, 2, 6), letter(1, 1, 1, 3)}
	want := []int64{12, 3}
	numbers, _ := warp.Run(rules, letters, 3, 2, 2)
	numbersToo, _ := warp.Run(rules, letters, 3, 2, 2)
	clear(numbers[:cap(numbers)])
	if !slices.Equal(numbersToo, want) {
		t.Error("two answers share memory:", numbersToo)
	}
	hold(t, "behind a spoilt answer", everyWay, rules, letters, 3, want, api.OK)
}

// Lists may stand several times in what is handed in, and be used by others meanwhile.
func TestP2CallsSideBySide(t *testing.T) {
	d := dice(5)
	rules := d.rules(10, 4)
	rules = append(rules, rules[:5]...)
	letters := d.letters(60, len(rules), 4, 6)
	want, _, _ := actor.Run(rules, letters, 60, 1)
	var calls sync.WaitGroup
	for workers := 1; workers <= 8; workers++ {
		calls.Go(func() {
			for window := 1; window <= 20; window++ {
				if numbers, err := warp.Run(rules, letters, 60, window, workers); err != api.OK || !slices.Equal(numbers, want) {
					t.Error(window, workers, numbers, err)
				}
			}
		})
	}
	calls.Wait()
}
