package shard_test

import (
	"runtime"
	"slices"
	"strings"
	"sync"
	"testing"
	"time"
	"unsafe"

	"lockstep/api"
	"lockstep/shard"
)

// goroutines: how many there are. runtime.NumGoroutine is not asked: it adds up numbers that change meanwhile, and may be wrong by dozens; a profile stops all others while it counts, even one for which there is no room.
func goroutines() int {
	n, _ := runtime.GoroutineProfile(make([]runtime.StackRecord, 1))
	return n
}

// settled: how many goroutines there are, when those that are just leaving have been given time to do so.
func settled(want int) int {
	n := goroutines()
	for range 5000 {
		if n <= want {
			break
		}
		time.Sleep(time.Millisecond)
		n = goroutines()
	}
	return n
}

// watch counts goroutines, its own too, till it is over, and then tells the greatest number.
func watch(over <-chan struct{}, seen chan<- int) {
	most := 0
	for {
		select {
		case <-over:
			seen <- most
			return
		default:
			most = max(most, goroutines())
		}
	}
}

// mostDuring: how many goroutines there are at most beside the test's own, as far as one who looks on from beside can see: some may be missed, but there are never fewer than are seen.
func mostDuring(do func()) int {
	over, seen := make(chan struct{}), make(chan int)
	before := goroutines() + 1
	go watch(over, seen)
	for range 5 {
		do()
		settled(before)
	}
	close(over)
	return <-seen - before
}

func TestP13P14NoMoreThanWorkers(t *testing.T) {
	const workers = 2
	all, terms := listsOf(api.MaxTasks, api.MaxItems/api.MaxTasks), termsOf(api.MaxItems, 1000)
	if most := mostDuring(func() { shard.Run(all, api.MaxWorkers, workers) }); most > workers {
		t.Error("too many goroutines at a time: Run", most)
	}
	if most := mostDuring(func() { shard.Intern(terms, workers) }); most > workers {
		t.Error("too many goroutines at a time: Intern", most)
	}
}

func TestP1GoroutinesHaveEnded(t *testing.T) {
	before := goroutines()
	d := dice(4)
	for range 50 {
		shard.Run(d.throw(20, 8, 10), 5, api.MaxWorkers)
		shard.Run(nil, 1, api.MaxWorkers)
		shard.Run([][]api.Effect{{{}}}, 1, api.MaxWorkers)
		shard.Intern(d.terms(20, 4, 3, 3), api.MaxWorkers)
		shard.Intern(nil, api.MaxWorkers)
		shard.Intern([]api.Term{doubled(99, term("a"))}, api.MaxWorkers)
	}
	if after := settled(before); after > before {
		t.Error("goroutines are left:", after-before)
	}
}

// marked: the list with marks in the room behind it.
func marked[T any](l []T, mark T) []T {
	return append(slices.Clone(l), mark, mark, mark)[:len(l)]
}

// untouched: is the list with its marks as it was?
func untouched[T any](l, was []T, mark T, same func(a, b T) bool) bool {
	return slices.EqualFunc(l[:len(l)+3], append(slices.Clone(was), mark, mark, mark), same)
}

func sameEffect(a, b api.Effect) bool { return a == b }

func sameEffects(a, b []api.Effect) bool { return slices.Equal(a, b) }

func sameTerm(a, b api.Term) bool { return written(a) == written(b) }

func TestP2EffectsAreNotChangedOrKept(t *testing.T) {
	d := dice(5)
	mark := api.Effect{Kind: -7, Key: "mark", N: -7}
	for range 20 {
		thrown := d.throw(10, 8, 10)
		all := marked(thrown, []api.Effect{mark})
		for i, list := range thrown {
			all[i] = marked(list, mark)
		}
		for n := 1; n <= api.MaxWorkers; n++ {
			shard.Run(all, n, api.MaxWorkers+1-n)
			shard.Check(all)
		}
		for i, list := range thrown {
			if !untouched(all[i], list, mark, sameEffect) {
				t.Fatal("changed:", i, all[i])
			}
		}
		if !untouched(all, thrown, []api.Effect{mark}, sameEffects) {
			t.Fatal("changed:", all)
		}
	}
	all := [][]api.Effect{{most("a", 5)}, {most("a", 2)}}
	hold(t, "first", all, []api.Entry{greatest("a", 5)})
	all[0][0] = most("b", 1)
	hold(t, "as it is now", all, []api.Entry{greatest("a", 2), greatest("b", 1)})
}

// markedTerms: a copy with marks in the room behind every list of Args.
func markedTerms(l []api.Term, mark api.Term) []api.Term {
	made := marked(l, mark)
	for i := range made {
		made[i].Args = markedTerms(l[i].Args, mark)
	}
	return made
}

// untouchedTerms: are the terms with all their marks as they were?
func untouchedTerms(l, was []api.Term, mark api.Term) bool {
	if !untouched(l, was, mark, sameTerm) {
		return false
	}
	for i := range l {
		if !untouchedTerms(l[i].Args, was[i].Args, mark) {
			return false
		}
	}
	return true
}

func TestP2TermsAreNotChangedOrKept(t *testing.T) {
	d := dice(6)
	mark := term("mark", term("within"))
	for range 20 {
		thrown := d.terms(8, 4, 3, 3)
		l := markedTerms(thrown, mark)
		for workers := 1; workers <= api.MaxWorkers; workers++ {
			shard.Intern(l, workers)
		}
		if !untouchedTerms(l, thrown, mark) {
			t.Fatal("changed:", l)
		}
	}
	l := []api.Term{term("f", term("a")), term("a")}
	holdTerms(t, "first", l, []int{1, 0}, []api.Entry{entry("a"), entry("f", 0)})
	l[0].Args[0].Name = "b"
	holdTerms(t, "as it is now", l, []int{1, 2}, []api.Entry{entry("b"), entry("f", 0), entry("a")})
}

func TestP2AnswersAreNewMemory(t *testing.T) {
	all := [][]api.Effect{{add("a", 5), most("b", 2)}, {add("a", 1)}}
	want := []api.Entry{sum("a", 6), greatest("b", 2)}
	entries, _ := shard.Run(all, 2, 2)
	entriesToo, _ := shard.Run(all, 2, 2)
	clear(entries[:cap(entries)])
	if !slices.Equal(entriesToo, want) {
		t.Error("two answers share memory:", entriesToo)
	}
	hold(t, "behind a spoilt answer", all, want)

	l := []api.Term{term("f", term("a")), term("a")}
	wantIDs, wantTable := []int{1, 0}, []api.Entry{entry("a"), entry("f", 0)}
	ids, table, _ := shard.Intern(l, 2)
	idsToo, tableToo, _ := shard.Intern(l, 2)
	clear(ids[:cap(ids)])
	clear(table[:cap(table)])
	if !slices.Equal(idsToo, wantIDs) || !slices.Equal(tableToo, wantTable) {
		t.Error("two answers share memory:", idsToo, tableToo)
	}
	holdTerms(t, "behind spoilt answers", l, wantIDs, wantTable)
}

// within: do the bytes of a text stand among those of the other?
func within(text, whole string) bool {
	at, from := uintptr(unsafe.Pointer(unsafe.StringData(text))), uintptr(unsafe.Pointer(unsafe.StringData(whole)))
	return at >= from && at < from+uintptr(len(whole))
}

// A short key may be cut from a long text: an answer that had its bytes would keep all of that.
func TestP2TextsAreNewMemory(t *testing.T) {
	whole := strings.Repeat("abcdefgh", 100)
	if !within(whole[3:6], whole) {
		t.Fatal("the test itself can't tell")
	}
	entries, _ := shard.Run([][]api.Effect{{add(whole[:3], 1), most(whole[3:6], 1)}}, 2, 2)
	_, table, _ := shard.Intern([]api.Term{term(whole[:3], term(whole[3:6]))}, 2)
	for _, e := range append(entries, table...) {
		if within(e.Key, whole) {
			t.Error("a key of what was handed in:", e)
		}
	}
	if len(entries) != 2 || len(table) != 2 {
		t.Error(entries, table)
	}
}

// Lists may stand several times in what is handed in, and be used by others meanwhile.
func TestP2CallsSideBySide(t *testing.T) {
	d := dice(7)
	all, l := d.throw(40, 20, 15), d.terms(50, 5, 3, 3)
	all, l = append(all, all[:20]...), append(l, l[:20]...)
	want := meaning(all)
	wantIDs, wantTable := meaningOfTerms(l)
	var calls sync.WaitGroup
	for workers := 1; workers <= 8; workers++ {
		calls.Go(func() {
			for range 20 {
				entries, err := shard.Run(all, 9-workers, workers)
				if err != api.OK || !slices.Equal(entries, want) {
					t.Error(workers, entries, err)
				}
				ids, table, err := shard.Intern(l, workers)
				if err != api.OK || !slices.Equal(ids, wantIDs) || !slices.Equal(table, wantTable) {
					t.Error(workers, ids, table, err)
				}
			}
		})
	}
	calls.Wait()
}
