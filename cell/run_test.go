package cell_test

import (
	"math"
	"runtime"
	"slices"
	"sync"
	"testing"
	"time"

	"lockstep/api"
	"lockstep/cell"
)

// byRounds: what the document says comes: all tasks are gone over again and again, each as far as it can go, till none can go any further.
func byRounds(tasks [][]api.Deed, cells int) ([]api.Told, []api.Told) {
	told, written := make([]api.Told, len(tasks)), make([]api.Told, cells)
	at := make([]int, len(tasks))
	for moved := true; moved; {
		moved = false
		for i, deeds := range tasks {
			for at[i] < len(deeds) {
				d := deeds[at[i]]
				if d.Kind == api.Take && !written[d.Cell].Done {
					break
				}
				switch d.Kind {
				case api.Take:
					told[i].Sum = told[i].Sum*31 + written[d.Cell].Sum
				case api.Give:
					written[d.Cell] = api.Told{Sum: told[i].Sum + d.N, Done: true}
				case api.Set:
					told[i].Sum = d.N
				}
				at[i]++
				moved = true
			}
			told[i].Done = at[i] == len(deeds)
		}
	}
	return told, written
}

// hold: Run answers this, however many work.
func hold(t *testing.T, what string, tasks [][]api.Deed, cells int, wantTold, wantWritten []api.Told) {
	t.Helper()
	for workers := 1; workers <= api.MaxWorkers; workers++ {
		told, written, err := cell.Run(tasks, cells, workers)
		if err != api.OK {
			t.Fatalf("%s: %d workers: error %d", what, workers, err)
		}
		if !slices.Equal(told, wantTold) {
			t.Fatalf("%s: %d workers: tasks %v, not %v", what, workers, told, wantTold)
		}
		if !slices.Equal(written, wantWritten) {
			t.Fatalf("%s: %d workers: cells %v, not %v", what, workers, written, wantWritten)
		}
	}
}

func done(sum int64) api.Told { return api.Told{Sum: sum, Done: true} }
func held(sum int64) api.Told { return api.Told{Sum: sum} }

func TestP4RunSmall(t *testing.T) {
	two := [][]api.Deed{{take(0), give(1, 5)}, {set(7), give(0, 0)}}
	cases := []struct {
		what          string
		tasks         [][]api.Deed
		cells         int
		told, written []api.Told
	}{
		{"the document's example", two, 2, []api.Told{done(7), done(7)}, []api.Told{done(7), done(12)}},
		{"its first task alone", two[:1], 2, []api.Told{held(0)}, []api.Told{held(0), held(0)}},
		{"nothing", nil, 0, nil, nil},
		{"cells alone", nil, 3, nil, []api.Told{{}, {}, {}}},
		{"tasks without deeds", [][]api.Deed{nil, {}}, 1, []api.Told{done(0), done(0)}, []api.Told{{}}},
		{"the last Set holds", [][]api.Deed{{set(4), set(-9)}}, 0, []api.Told{done(-9)}, nil},
		{"the sum begins at 0", [][]api.Deed{{give(0, -3)}}, 1, []api.Told{done(0)}, []api.Told{done(-3)}},
		{"a Give leaves the sum", [][]api.Deed{{set(2), give(0, 10), give(1, 20)}}, 2, []api.Told{done(2)}, []api.Told{done(12), done(22)}},
		{"31 times the sum, and the value", [][]api.Deed{{set(2), give(0, 1), take(0), take(0)}}, 1, []api.Told{done(31*(31*2+3) + 3)}, []api.Told{done(3)}},
		{"a value of 0 is a value", [][]api.Deed{{take(0), set(6)}, {give(0, 0)}}, 1, []api.Told{done(6), done(0)}, []api.Told{done(0)}},
	}
	for _, c := range cases {
		hold(t, c.what, c.tasks, c.cells, c.told, c.written)
	}
}

func TestP4RunNumbersRunOver(t *testing.T) {
	tasks := [][]api.Deed{
		{set(math.MaxInt64), give(0, 1)},
		{set(math.MinInt64), give(1, -1)},
		{set(math.MaxInt64), take(0)},
		{set(1 << 62), take(1)},
	}
	// by 2^64: 31 (2^63 - 1) - 2^63 is -31; 31 times 2^62, and 2^63 - 1, is 2^62 - 1
	third, fourth := int64(-31), int64(1<<62-1)
	hold(t, "run over", tasks, 2,
		[]api.Told{done(math.MaxInt64), done(math.MinInt64), done(third), done(fourth)},
		[]api.Told{done(math.MinInt64), done(math.MaxInt64)})
}

func TestP4RunWaitsInVain(t *testing.T) {
	hold(t, "the sum is what it had there", [][]api.Deed{{set(8), give(0, 1), take(0), take(1), set(5), give(2, 0)}, {take(2)}}, 3,
		[]api.Told{held(31*8 + 9), held(0)}, []api.Told{done(9), held(0), held(0)})
	hold(t, "a ring, and one beside it", [][]api.Deed{{take(0), give(1, 0)}, {take(1), give(0, 0)}, {set(3), give(2, 1)}}, 3,
		[]api.Told{held(0), held(0), done(3)}, []api.Told{held(0), held(0), done(4)})
	hold(t, "one that waits for itself", [][]api.Deed{{set(2), take(0), give(0, 0)}}, 1,
		[]api.Told{held(2)}, []api.Told{held(0)})
	hold(t, "the last deed waits", [][]api.Deed{{set(2), take(0)}}, 1,
		[]api.Told{held(2)}, []api.Told{held(0)})
}

// A task that waits counts not: were it to keep its worker, these would never end.
func TestP4RunMoreWaitThanWork(t *testing.T) {
	var chain [][]api.Deed
	for i := range api.MaxCells - 1 {
		chain = append(chain, []api.Deed{take(i + 1), give(i, 1)})
	}
	chain = append(chain, []api.Deed{set(1), give(api.MaxCells-1, 0)})
	told, written := byRounds(chain, api.MaxCells)
	if written[0] != done(api.MaxCells) {
		t.Fatal("the chain comes not to its end", written[0])
	}
	hold(t, "a chain from behind", chain, api.MaxCells, told, written)

	var crowd [][]api.Deed
	for range api.MaxTasks - 1 {
		crowd = append(crowd, []api.Deed{take(0), take(1), take(0)})
	}
	crowd = append(crowd, []api.Deed{set(3), give(0, 0), give(1, 1)})
	told, written = byRounds(crowd, 2)
	if told[0] != done(31*(31*3+4)+3) {
		t.Fatal("the crowd comes not to its end", told[0])
	}
	hold(t, "all wait for one", crowd, 2, told, written)
}

// dice gives numbers that are the same in every run of the tests.
type dice uint64

func (d *dice) below(n int) int {
	*d = *d*6364136223846793005 + 1442695040888963407
	return int(uint64(*d) >> 33 % uint64(n))
}

// throw: tasks over cells of which each is given once at most.
func throw(d *dice, cells, tasks, deeds int) [][]api.Deed {
	l := make([][]api.Deed, tasks)
	var given [api.MaxCells]bool
	for i := range l {
		for range d.below(deeds + 1) {
			n := d.below(cells)
			switch {
			case d.below(5) == 0:
				l[i] = append(l[i], set(int64(d.below(1000))-500))
			case d.below(2) == 0 && !given[n]:
				given[n] = true
				l[i] = append(l[i], give(n, int64(d.below(100))))
			default:
				l[i] = append(l[i], take(n))
			}
		}
	}
	return l
}

func TestP4RunIsWhatComesOfRounds(t *testing.T) {
	d := dice(1)
	ended, stuck := 0, 0
	for range 300 {
		cells := 1 + d.below(12)
		tasks := throw(&d, cells, d.below(10), 6)
		told, written := byRounds(tasks, cells)
		for _, one := range told {
			if one.Done {
				ended++
			} else {
				stuck++
			}
		}
		hold(t, "thrown", tasks, cells, told, written)
	}
	if ended < 300 || stuck < 300 {
		t.Error("the dice throw too few of one kind:", ended, stuck)
	}
	for range 10 {
		tasks := throw(&d, api.MaxCells, api.MaxTasks, 40)
		told, written := byRounds(tasks, api.MaxCells)
		hold(t, "thrown, great", tasks, api.MaxCells, told, written)
	}
}

func TestP4RunAtTheLimits(t *testing.T) {
	tasks := make([][]api.Deed, api.MaxTasks)
	for i := range tasks {
		for j := range api.MaxOps - 1 {
			tasks[i] = append(tasks[i], take((i+j)%api.MaxCells))
		}
	}
	for i := range api.MaxCells {
		tasks[i] = append([]api.Deed{give(i, int64(i))}, tasks[i]...)
	}
	told, written := byRounds(tasks, api.MaxCells)
	hold(t, "as great as may be", tasks, api.MaxCells, told, written)
}

func TestP4RunErrArgOfWorkers(t *testing.T) {
	tasks := [][]api.Deed{{set(1), give(0, 0)}}
	for _, workers := range []int{math.MinInt, -1, 0, api.MaxWorkers + 1, math.MaxInt} {
		if told, written, err := cell.Run(tasks, 1, workers); err != api.ErrArg || told != nil || written != nil {
			t.Error(workers, told, written, err)
		}
	}
	for _, workers := range []int{0, api.MaxWorkers + 1} {
		if _, _, err := cell.Run(tasksOf(api.MaxTasks+1, 1), 1, workers); err != api.ErrLarge {
			t.Error("Check comes first:", err)
		}
		if _, _, err := cell.Run([][]api.Deed{{give(0, 0), give(0, 0)}}, 1, workers); err != api.ErrTwice {
			t.Error("Check comes first:", err)
		}
	}
}

// goroutines: how many there are. runtime.NumGoroutine is not asked: it adds up numbers that change meanwhile, and may be wrong by dozens; a profile stops all others while it counts, even one for which there is no room.
func goroutines() int {
	n, _ := runtime.GoroutineProfile(make([]runtime.StackRecord, 1))
	return n
}

// settled: how many goroutines there are, when those that are just leaving have been given time to do so.
func settled(want int) int {
	n := goroutines()
	for range 5000 {
		if n <= want {
			break
		}
		time.Sleep(time.Millisecond)
		n = goroutines()
	}
	return n
}

// watch counts goroutines, its own too, till it is over, and then tells the greatest number.
func watch(over <-chan struct{}, seen chan<- int) {
	most := 0
	for {
		select {
		case <-over:
			seen <- most
			return
		default:
			most = max(most, goroutines())
		}
	}
}

// Looking on from beside may miss some goroutines, but never sees more than there are.
func TestP4RunNoMoreThanWorkers(t *testing.T) {
	const workers = 2
	tasks := tasksOf(api.MaxTasks, api.MaxOps)
	over, seen := make(chan struct{}), make(chan int)
	before := goroutines() + 1
	go watch(over, seen)
	for range 20 {
		cell.Run(tasks, 0, workers)
		settled(before)
	}
	close(over)
	if most := <-seen; most > before+workers {
		t.Error("goroutines beside the test's own:", most-before)
	}
}

func TestP1GoroutinesHaveEnded(t *testing.T) {
	before := goroutines()
	ring := [][]api.Deed{{take(0), give(1, 0)}, {take(1), give(0, 0)}, {set(3)}}
	for range 50 {
		cell.Run(ring, 2, api.MaxWorkers)
		cell.Run(nil, 0, api.MaxWorkers)
		cell.Run(ring, 1, api.MaxWorkers)
	}
	if after := settled(before); after > before {
		t.Error("goroutines are left:", after-before)
	}
}

func TestP2NothingIsChangedOrKept(t *testing.T) {
	mark := api.Deed{Kind: -7, Cell: -7, N: -7}
	room := func(deeds ...api.Deed) []api.Deed {
		return append(slices.Clone(deeds), mark, mark)[:len(deeds)]
	}
	behind := [][]api.Deed{room(take(0), give(1, 5)), room(set(7), give(0, 0)), room(mark)}
	tasks := behind[:2]
	var before [][]api.Deed
	for _, deeds := range behind {
		before = append(before, slices.Clone(deeds[:len(deeds)+2]))
	}
	told, written, _ := cell.Run(tasks, 2, 4)
	cell.Check(tasks, 2)
	for i, deeds := range behind {
		if !slices.Equal(deeds[:len(deeds)+2], before[i]) {
			t.Error("changed:", i, deeds[:len(deeds)+2])
		}
	}
	tasks[0][0], tasks[1][0] = set(100), set(200)
	if !slices.Equal(told, []api.Told{done(7), done(7)}) || !slices.Equal(written, []api.Told{done(7), done(12)}) {
		t.Error("the answer hangs on what was handed in:", told, written)
	}
	hold(t, "as it is now", tasks, 2, []api.Told{done(100), done(200)}, []api.Told{done(200), done(105)})
}

func TestP2AnswersAreNewMemory(t *testing.T) {
	tasks := [][]api.Deed{{take(0), give(1, 5)}, {set(7), give(0, 0)}}
	wantTold, wantWritten := []api.Told{done(7), done(7)}, []api.Told{done(7), done(12)}
	spoil := func(l []api.Told) {
		l = l[:cap(l)]
		for i := range l {
			l[i] = held(-1)
		}
	}
	told, written, _ := cell.Run(tasks, 2, 2)
	toldToo, writtenToo, _ := cell.Run(tasks, 2, 2)
	spoil(told)
	if !slices.Equal(written, wantWritten) {
		t.Error("the two lists of one answer share memory:", written)
	}
	spoil(written)
	if !slices.Equal(toldToo, wantTold) || !slices.Equal(writtenToo, wantWritten) {
		t.Error("two answers share memory:", toldToo, writtenToo)
	}
	hold(t, "behind spoilt answers", tasks, 2, wantTold, wantWritten)
}

func TestP2CallsSideBySide(t *testing.T) {
	d := dice(2)
	tasks := throw(&d, 20, 40, 8)
	wantTold, wantWritten := byRounds(tasks, 20)
	var all sync.WaitGroup
	for workers := 1; workers <= 8; workers++ {
		all.Go(func() {
			for range 20 {
				told, written, err := cell.Run(tasks, 20, workers)
				if err != api.OK || !slices.Equal(told, wantTold) || !slices.Equal(written, wantWritten) {
					t.Error(workers, told, written, err)
				}
			}
		})
	}
	all.Wait()
}
