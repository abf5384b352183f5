package lattice_test

import (
	"math"
	"runtime"
	"slices"
	"sync"
	"testing"
	"time"

	"lockstep/api"
	"lockstep/lattice"
)

// reached: has a cell of this kind, with this number, reached n?
func reached(kind int, number, n int64) bool {
	if kind == api.Union {
		return n&^number == 0
	}
	return n <= number
}

// free: how many deeds a task can do ahead of a Read, if the cells have these numbers.
func free(deeds []api.Rise, kinds []int, numbers []int64) int {
	for i, d := range deeds {
		if d.Kind == api.Read || d.Kind == api.Wait && !reached(kinds[d.Cell], numbers[d.Cell], d.N) {
			return i
		}
	}
	return len(deeds)
}

// frozenOf: the least numbers that the cells can have: all begin at 0, and become what comes of all Joins that they themselves let be done, again and again, till nothing comes of it any more. No task is ever stepped: so this hangs on no order at all.
func frozenOf(tasks [][]api.Rise, kinds []int) []int64 {
	numbers := make([]int64, len(kinds))
	for {
		next := make([]int64, len(kinds))
		for _, deeds := range tasks {
			for _, d := range deeds[:free(deeds, kinds, numbers)] {
				switch {
				case d.Kind != api.Join:
				case kinds[d.Cell] == api.Union:
					next[d.Cell] |= d.N
				case next[d.Cell] < d.N:
					next[d.Cell] = d.N
				}
			}
		}
		if slices.Equal(next, numbers) {
			return numbers
		}
		numbers = next
	}
}

// meaning: what comes of each task when the cells are frozen, and their numbers.
func meaning(tasks [][]api.Rise, kinds []int) ([]api.Told, []int64) {
	numbers := frozenOf(tasks, kinds)
	told := make([]api.Told, len(tasks))
	for i, deeds := range tasks {
		at := free(deeds, kinds, numbers)
		for at < len(deeds) {
			d := deeds[at]
			if !reached(kinds[d.Cell], numbers[d.Cell], d.N) {
				break
			}
			if d.Kind == api.Read {
				told[i].Sum = told[i].Sum*31 + numbers[d.Cell]
			}
			at++
		}
		told[i].Done = at == len(deeds)
	}
	return told, numbers
}

// hold: Run answers this, however many work.
func hold(t *testing.T, what string, tasks [][]api.Rise, kinds []int, wantTold []api.Told, wantNumbers []int64) {
	t.Helper()
	for workers := 1; workers <= api.MaxWorkers; workers++ {
		told, numbers, err := lattice.Run(tasks, kinds, workers)
		if err != api.OK {
			t.Fatalf("%s: %d workers: error %d", what, workers, err)
		}
		if !slices.Equal(told, wantTold) {
			t.Fatalf("%s: %d workers: tasks %v, not %v", what, workers, told, wantTold)
		}
		if !slices.Equal(numbers, wantNumbers) {
			t.Fatalf("%s: %d workers: cells %v, not %v", what, workers, numbers, wantNumbers)
		}
	}
}

func done(sum int64) api.Told { return api.Told{Sum: sum, Done: true} }
func held(sum int64) api.Told { return api.Told{Sum: sum} }

type runCase struct {
	what    string
	tasks   [][]api.Rise
	kinds   []int
	told    []api.Told
	numbers []int64
}

func holdRuns(t *testing.T, cases []runCase) {
	t.Helper()
	for _, c := range cases {
		hold(t, c.what, c.tasks, c.kinds, c.told, c.numbers)
		if told, numbers := meaning(c.tasks, c.kinds); !slices.Equal(told, c.told) || !slices.Equal(numbers, c.numbers) {
			t.Errorf("%s: the meaning is said otherwise: %v, %v", c.what, told, numbers)
		}
	}
}

func TestP12RunSmall(t *testing.T) {
	grow := []int{api.Grow}
	holdRuns(t, []runCase{
		{"the document's example", [][]api.Rise{{join(0, 4), read(0)}, {wait(0, 3), join(0, 9)}}, grow, []api.Told{done(9), done(0)}, []int64{9}},
		{"nothing", nil, nil, nil, nil},
		{"cells alone", nil, []int{api.Grow, api.Union}, nil, []int64{0, 0}},
		{"tasks without deeds", [][]api.Rise{nil, {}}, grow, []api.Told{done(0), done(0)}, []int64{0}},
		{"a Read of what nobody joined", [][]api.Rise{{read(0)}}, grow, []api.Told{done(0)}, []int64{0}},
		{"a Join leaves the sum", [][]api.Rise{{join(0, 7)}}, grow, []api.Told{done(0)}, []int64{7}},
		{"a Wait leaves the sum", [][]api.Rise{{join(0, 7), wait(0, 7)}}, grow, []api.Told{done(0)}, []int64{7}},
		{"31 times the sum, and the number", [][]api.Rise{{join(0, 2), join(1, 3), read(0), read(1), read(0)}}, []int{api.Grow, api.Union}, []api.Told{done(31*(31*2+3) + 2)}, []int64{2, 3}},
		{"a cell between that nobody uses", [][]api.Rise{{join(2, 5), join(0, 6), read(1), read(2)}}, []int{api.Union, api.Grow, api.Grow}, []api.Told{done(5)}, []int64{6, 0, 5}},
	})
}

// What a Join makes of a cell, and what has then been reached.
func TestP12RunKinds(t *testing.T) {
	grow, union := []int{api.Grow}, []int{api.Union}
	holdRuns(t, []runCase{
		{"Grow takes the greater one", [][]api.Rise{{join(0, 5), join(0, 3)}}, grow, []api.Told{done(0)}, []int64{5}},
		{"Union takes the bits of both", [][]api.Rise{{join(0, 5), join(0, 3)}}, union, []api.Told{done(0)}, []int64{7}},
		{"Grow, of two tasks", [][]api.Rise{{join(0, 12)}, {join(0, 10)}}, grow, []api.Told{done(0), done(0)}, []int64{12}},
		{"Union, of two tasks", [][]api.Rise{{join(0, 12)}, {join(0, 10)}}, union, []api.Told{done(0), done(0)}, []int64{14}},
		{"each by its own kind", [][]api.Rise{{join(0, 4), join(1, 4)}, {join(1, 3), join(0, 3)}}, []int{api.Grow, api.Union}, []api.Told{done(0), done(0)}, []int64{4, 7}},
		{"a Join of 0", [][]api.Rise{{join(0, 0), join(1, 0)}}, []int{api.Grow, api.Union}, []api.Told{done(0)}, []int64{0, 0}},
		{"a Wait for 0", [][]api.Rise{{wait(0, 0), wait(1, 0)}}, []int{api.Grow, api.Union}, []api.Told{done(0)}, []int64{0, 0}},
		{"Grow: as much has been reached", [][]api.Rise{{wait(0, 6)}, {join(0, 6)}}, grow, []api.Told{done(0), done(0)}, []int64{6}},
		{"Grow: less has been reached, whatever its bits", [][]api.Rise{{wait(0, 7)}, {join(0, 8)}}, grow, []api.Told{done(0), done(0)}, []int64{8}},
		{"Grow: one more has not", [][]api.Rise{{wait(0, 9)}, {join(0, 8)}}, grow, []api.Told{held(0), done(0)}, []int64{8}},
		{"Union: the same bits have been reached", [][]api.Rise{{wait(0, 6)}, {join(0, 6)}}, union, []api.Told{done(0), done(0)}, []int64{6}},
		{"Union: fewer bits have been reached", [][]api.Rise{{wait(0, 10)}, {join(0, 14)}}, union, []api.Told{done(0), done(0)}, []int64{14}},
		{"Union: bits of two", [][]api.Rise{{wait(0, 6)}, {join(0, 4)}, {join(0, 2)}}, union, []api.Told{done(0), done(0), done(0)}, []int64{6}},
		{"Union: a greater number is no more", [][]api.Rise{{wait(0, 7)}, {join(0, 8)}}, union, []api.Told{held(0), done(0)}, []int64{8}},
		{"Union: some of the bits are too few", [][]api.Rise{{wait(0, 5)}, {join(0, 4)}}, union, []api.Told{held(0), done(0)}, []int64{4}},
	})
}

func TestP12RunGreatNumbers(t *testing.T) {
	const most = int64(1 << 62)
	full := int64(math.MaxInt64)
	holdRuns(t, []runCase{
		{"the greatest N", [][]api.Rise{{wait(0, most), wait(1, most)}, {join(0, most), join(1, most)}}, []int{api.Grow, api.Union}, []api.Told{done(0), done(0)}, []int64{most, most}},
		{"Grow: one less is less", [][]api.Rise{{wait(0, most)}, {join(0, most-1)}}, []int{api.Grow}, []api.Told{held(0), done(0)}, []int64{most - 1}},
		{"Union: all bits that can be", [][]api.Rise{{wait(0, most), wait(0, most-1), read(0)}, {join(0, most)}, {join(0, most-1)}}, []int{api.Union}, []api.Told{done(full), done(0), done(0)}, []int64{full}},
		// by 2^64: 31 times 2^62, and 2^62, is 0 (32 times 2^62); one more Read makes 2^62 again
		{"the sum runs over, to 0", [][]api.Rise{{join(0, most), read(0), read(0)}, {read(0), read(0), read(0)}}, []int{api.Grow}, []api.Told{done(0), done(most)}, []int64{most}},
		// 32 times 2^63 - 1 is 2^68 - 32
		{"the sum runs over, below 0", [][]api.Rise{{join(0, most), join(0, most-1), read(0), read(0)}}, []int{api.Union}, []api.Told{done(-32)}, []int64{full}},
	})
}

// Till all cells are frozen a Read waits, and what stands behind it is not done.
func TestP12RunReadWaits(t *testing.T) {
	grow := []int{api.Grow}
	holdRuns(t, []runCase{
		{"a Join behind a Read comes too late", [][]api.Rise{{read(0), join(0, 1)}}, grow, []api.Told{held(0)}, []int64{0}},
		{"and nobody is woken by it", [][]api.Rise{{read(0), join(0, 5)}, {wait(0, 5), join(0, 9)}}, grow, []api.Told{held(0), held(0)}, []int64{0}},
		{"all Joins ahead of the Reads come first", [][]api.Rise{{read(0)}, {join(0, 1), read(0)}, {wait(0, 1), join(0, 2), read(0)}, {wait(0, 2), join(0, 3)}}, grow, []api.Told{done(3), done(3), done(3), done(0)}, []int64{3}},
		{"a Read of one waits for the others too", [][]api.Rise{{read(1), join(0, 1)}, {wait(0, 1), join(1, 1)}}, []int{api.Grow, api.Union}, []api.Told{held(0), held(0)}, []int64{0, 0}},
		{"two that read each what the other joins behind it", [][]api.Rise{{read(0), join(1, 1)}, {read(1), join(0, 1)}}, []int{api.Grow, api.Grow}, []api.Told{held(0), held(0)}, []int64{0, 0}},
	})
}

func TestP12RunFrozen(t *testing.T) {
	kinds := []int{api.Grow, api.Union}
	joins := []api.Rise{join(0, 5), join(1, 5)}
	holdRuns(t, []runCase{
		{"the same goes on", [][]api.Rise{joins, {read(0), join(0, 5), join(1, 5), wait(0, 5), wait(1, 5), read(1)}}, kinds, []api.Told{done(0), done(31*5 + 5)}, []int64{5, 5}},
		{"less goes on", [][]api.Rise{joins, {read(0), join(0, 3), join(1, 4), wait(0, 2), wait(1, 1), read(1)}}, kinds, []api.Told{done(0), done(31*5 + 5)}, []int64{5, 5}},
		{"0 goes on", [][]api.Rise{{read(0), join(0, 0), join(1, 0), wait(0, 0), wait(1, 0)}}, kinds, []api.Told{done(0)}, []int64{0, 0}},
		{"a Join of more, Grow", [][]api.Rise{joins, {read(0), join(0, 6), read(1)}}, kinds, []api.Told{done(0), held(5)}, []int64{5, 5}},
		{"a Wait for more, Grow", [][]api.Rise{joins, {read(0), wait(0, 6), read(1)}}, kinds, []api.Told{done(0), held(5)}, []int64{5, 5}},
		{"a Join of other bits, Union", [][]api.Rise{joins, {read(0), join(1, 2), read(1)}}, kinds, []api.Told{done(0), held(5)}, []int64{5, 5}},
		{"a Wait for other bits, Union", [][]api.Rise{joins, {read(0), wait(1, 3), read(1)}}, kinds, []api.Told{done(0), held(5)}, []int64{5, 5}},
		{"the last deed stops", [][]api.Rise{joins, {read(0), join(0, 6)}, {read(1), wait(0, 6)}}, kinds, []api.Told{done(0), held(5), held(5)}, []int64{5, 5}},
		{"one stops, another goes on", [][]api.Rise{joins, {read(0), join(0, 6)}, {read(0), wait(0, 6)}, {read(0), read(0)}}, kinds, []api.Told{done(0), held(5), held(5), done(160)}, []int64{5, 5}},
		{"a Join that stops lets nothing in", [][]api.Rise{{read(0), join(1, 3)}, {read(0), wait(1, 1), read(0)}, {read(0), join(1, 1), read(0)}}, kinds, []api.Told{held(0), held(0), held(0)}, []int64{0, 0}},
	})
}

func TestP12RunWaitsInVain(t *testing.T) {
	two := []int{api.Grow, api.Union}
	holdRuns(t, []runCase{
		{"nobody joins", [][]api.Rise{{wait(0, 1)}, {wait(1, 1), read(0)}}, two, []api.Told{held(0), held(0)}, []int64{0, 0}},
		{"a ring, and one beside it", [][]api.Rise{{wait(0, 1), join(1, 1)}, {wait(1, 1), join(0, 1)}, {join(0, 0), read(1)}}, two, []api.Told{held(0), held(0), done(0)}, []int64{0, 0}},
		{"one that waits for itself", [][]api.Rise{{wait(0, 1), join(0, 1)}}, two, []api.Told{held(0)}, []int64{0, 0}},
		{"a ring that is set going", [][]api.Rise{{wait(0, 1), join(1, 1)}, {wait(1, 1), join(0, 2)}, {join(0, 1)}}, two, []api.Told{done(0), done(0), done(0)}, []int64{2, 1}},
		{"what was joined ahead of the Wait lasts", [][]api.Rise{{join(0, 3), join(1, 8), wait(0, 4), join(0, 9)}, {read(0), read(1)}}, two, []api.Told{held(0), done(31*3 + 8)}, []int64{3, 8}},
		{"a Wait that was in vain is never gone on from", [][]api.Rise{{wait(0, 2), read(0)}, {join(0, 1), read(0), join(0, 2)}}, two, []api.Told{held(0), held(1)}, []int64{1, 0}},
		{"some of those that wait", [][]api.Rise{{wait(0, 1)}, {wait(0, 3)}, {wait(0, 2), join(0, 2)}, {join(0, 2)}, {wait(0, 2)}}, two, []api.Told{done(0), held(0), done(0), done(0), done(0)}, []int64{2, 0}},
	})
}

// A task that waits holds no worker: were it to keep one, these would never end.
func TestP12RunMoreWaitThanWork(t *testing.T) {
	for _, kind := range []int{api.Grow, api.Union} {
		var chain, steps [][]api.Rise
		for i := range api.MaxCells - 1 {
			chain = append(chain, []api.Rise{wait(i+1, 3), join(i, 3), read(0)})
		}
		chain = append(chain, []api.Rise{join(api.MaxCells-1, 3)})
		told, numbers := meaning(chain, cellsOf(kind, api.MaxCells))
		if numbers[0] != 3 || told[0] != done(3) {
			t.Fatal("the chain comes not to its end", numbers[0], told[0])
		}
		hold(t, "a chain from behind", chain, cellsOf(kind, api.MaxCells), told, numbers)

		for i := range int64(50) {
			steps = append(steps, []api.Rise{wait(0, 1<<i), join(0, 1<<(i+1))})
		}
		slices.Reverse(steps)
		steps = append(steps, []api.Rise{join(0, 1)})
		told, numbers = meaning(steps, []int{kind})
		if !told[0].Done {
			t.Fatal("the steps come not to their end", numbers[0])
		}
		hold(t, "steps of one cell", steps, []int{kind}, told, numbers)

		crowd := slices.Repeat([][]api.Rise{{wait(0, 1), wait(1, 1), wait(0, 3), read(1)}}, api.MaxTasks-1)
		crowd = append(crowd, []api.Rise{join(0, 1), join(1, 1), join(0, 3)})
		told, numbers = meaning(crowd, cellsOf(kind, 2))
		if told[0] != done(1) {
			t.Fatal("the crowd comes not to its end", told[0])
		}
		hold(t, "all wait for one", crowd, cellsOf(kind, 2), told, numbers)
	}
}

// dice gives numbers that are the same in every run of the tests.
type dice uint64

func (d *dice) below(n int) int {
	*d = *d*6364136223846793005 + 1442695040888963407
	return int(uint64(*d) >> 33 % uint64(n))
}

// kinds: so many cells of any kinds.
func (d *dice) kinds(cells int) []int {
	l := make([]int, cells)
	for i := range l {
		l[i] = 1 + d.below(api.Union)
	}
	return l
}

// deed: any, over so many cells; a Read seldom, lest little is joined ahead of it.
func (d *dice) deed(cells int) api.Rise {
	cell, n := d.below(cells), int64(d.below(8))
	switch d.below(8) {
	case 0:
		return read(cell)
	case 1, 2, 3:
		return wait(cell, n)
	}
	return join(cell, n)
}

// throw: so many tasks over so many cells.
func (d *dice) throw(cells, tasks, deeds int) [][]api.Rise {
	l := make([][]api.Rise, tasks)
	for i := range l {
		for range d.below(deeds + 1) {
			l[i] = append(l[i], d.deed(cells))
		}
	}
	return l
}

func TestP12RunIsTheMeaning(t *testing.T) {
	d := dice(1)
	ended, stuck := 0, 0
	for range 400 {
		kinds := d.kinds(1 + d.below(6))
		tasks := d.throw(len(kinds), d.below(10), 8)
		told, numbers := meaning(tasks, kinds)
		for _, one := range told {
			if one.Done {
				ended++
			} else {
				stuck++
			}
		}
		hold(t, "thrown", tasks, kinds, told, numbers)
	}
	if ended < 300 || stuck < 300 {
		t.Error("the dice throw too few of one kind:", ended, stuck)
	}
	for range 20 {
		kinds := d.kinds(api.MaxCells)
		tasks := d.throw(api.MaxCells, api.MaxTasks, 40)
		told, numbers := meaning(tasks, kinds)
		hold(t, "thrown, great", tasks, kinds, told, numbers)
	}
}

// The order of the tasks is not to be seen: each has the same of it wherever it stands.
func TestP12RunInAnyOrder(t *testing.T) {
	d := dice(5)
	for range 50 {
		kinds := d.kinds(3)
		tasks := d.throw(3, 8, 8)
		told, numbers := meaning(tasks, kinds)
		for range tasks {
			tasks, told = append(tasks[1:], tasks[0]), append(told[1:], told[0])
			hold(t, "turned round", tasks, kinds, told, numbers)
		}
	}
}

func TestP12RunAtTheLimits(t *testing.T) {
	for _, kind := range []int{api.Grow, api.Union} {
		tasks := make([][]api.Rise, api.MaxTasks)
		for i := range tasks {
			for j := range api.MaxOps {
				d := join((i+j)%api.MaxCells, int64(i*j)%997)
				if j >= api.MaxOps/2 {
					d = read(d.Cell)
				}
				tasks[i] = append(tasks[i], d)
			}
		}
		kinds := cellsOf(kind, api.MaxCells)
		told, numbers := meaning(tasks, kinds)
		hold(t, "as great as may be", tasks, kinds, told, numbers)
	}
	crowd := make([][]api.Rise, api.MaxTasks)
	for i := range crowd {
		for j := range api.MaxOps {
			n := int64(j/2*api.MaxTasks + i)
			if j%2 == 0 {
				crowd[i] = append(crowd[i], wait(0, n))
			} else {
				crowd[i] = append(crowd[i], join(0, n+1))
			}
		}
	}
	all := slices.Repeat([]api.Told{done(0)}, api.MaxTasks)
	for workers := 1; workers <= api.MaxWorkers; workers += 5 {
		told, numbers, err := lattice.Run(crowd, []int{api.Grow}, workers)
		if err != api.OK || !slices.Equal(told, all) || !slices.Equal(numbers, []int64{api.MaxTasks * api.MaxOps / 2}) {
			t.Error("all in turn, over and over:", workers, numbers, err)
		}
	}
}

func TestP12RunErrArgOfWorkers(t *testing.T) {
	tasks := [][]api.Rise{{join(0, 1), read(0)}}
	for _, workers := range []int{math.MinInt, -1, 0, api.MaxWorkers + 1, math.MaxInt} {
		if told, numbers, err := lattice.Run(tasks, []int{api.Grow}, workers); err != api.ErrArg || told != nil || numbers != nil {
			t.Error(workers, told, numbers, err)
		}
		if told, numbers, err := lattice.Run(nil, nil, workers); err != api.ErrArg || told != nil || numbers != nil {
			t.Error(workers, told, numbers, err)
		}
		if _, _, err := lattice.Run(tasksOf(api.MaxTasks+1, 1), []int{api.Grow}, workers); err != api.ErrLarge {
			t.Error("Check comes first:", err)
		}
	}
}

// goroutines: how many there are. runtime.NumGoroutine is not asked: it adds up numbers that change meanwhile, and may be wrong by dozens; a profile stops all others while it counts, even one for which there is no room.
func goroutines() int {
	n, _ := runtime.GoroutineProfile(make([]runtime.StackRecord, 1))
	return n
}

// settled: how many goroutines there are, when those that are just leaving have been given time to do so.
func settled(want int) int {
	n := goroutines()
	for range 5000 {
		if n <= want {
			break
		}
		time.Sleep(time.Millisecond)
		n = goroutines()
	}
	return n
}

// watch counts goroutines, its own too, till it is over, and then tells the greatest number.
func watch(over <-chan struct{}, seen chan<- int) {
	most := 0
	for {
		select {
		case <-over:
			seen <- most
			return
		default:
			most = max(most, goroutines())
		}
	}
}

// Looking on from beside may miss some goroutines, but never sees more than there are.
func TestP12RunNoMoreThanWorkers(t *testing.T) {
	const workers = 2
	tasks := tasksOf(api.MaxTasks, api.MaxOps)
	over, seen := make(chan struct{}), make(chan int)
	before := goroutines() + 1
	go watch(over, seen)
	for range 5 {
		lattice.Run(tasks, []int{api.Grow}, workers)
		settled(before)
	}
	close(over)
	if most := <-seen - before; most > workers {
		t.Error("goroutines beside the test's own:", most)
	}
}

func TestP1GoroutinesHaveEnded(t *testing.T) {
	before := goroutines()
	d := dice(3)
	for range 50 {
		lattice.Run(d.throw(5, 20, 8), d.kinds(5), api.MaxWorkers)
		lattice.Run(nil, nil, api.MaxWorkers)
		lattice.Run([][]api.Rise{{wait(0, 1)}, {read(0), join(0, 1)}}, []int{api.Grow}, api.MaxWorkers)
		lattice.Run([][]api.Rise{{{}}}, []int{api.Grow}, api.MaxWorkers)
	}
	if after := settled(before); after > before {
		t.Error("goroutines are left:", after-before)
	}
}

// marked: the list with marks in the room behind it.
func marked[T any](l []T, mark T) []T {
	return append(slices.Clone(l), mark, mark, mark)[:len(l)]
}

// untouched: is the list with its marks as it was?
func untouched[T comparable](l, was []T, mark T) bool {
	return slices.Equal(l[:len(l)+3], append(slices.Clone(was), mark, mark, mark))
}

func TestP2NothingIsChangedOrKept(t *testing.T) {
	d := dice(4)
	mark := api.Rise{Kind: -7, Cell: -7, N: -7}
	for range 20 {
		kindsThrown := d.kinds(1 + d.below(6))
		thrown := d.throw(len(kindsThrown), 10, 8)
		kinds, tasks := marked(kindsThrown, -7), marked(thrown, []api.Rise{mark})
		for i, deeds := range thrown {
			tasks[i] = marked(deeds, mark)
		}
		for workers := 1; workers <= api.MaxWorkers; workers++ {
			lattice.Run(tasks, kinds, workers)
			lattice.Check(tasks, kinds)
		}
		for i, deeds := range thrown {
			if !untouched(tasks[i], deeds, mark) {
				t.Fatal("changed:", i, tasks[i])
			}
		}
		for _, room := range tasks[len(tasks) : len(tasks)+3] {
			if !slices.Equal(room, []api.Rise{mark}) {
				t.Fatal("changed behind the tasks:", room)
			}
		}
		if !untouched(kinds, kindsThrown, -7) {
			t.Fatal("changed:", kinds)
		}
	}
	tasks, kinds := [][]api.Rise{{join(0, 5)}, {join(0, 2), read(0)}}, []int{api.Grow}
	hold(t, "first", tasks, kinds, []api.Told{done(0), done(5)}, []int64{5})
	tasks[0][0], kinds[0] = join(0, 8), api.Union
	hold(t, "as it is now", tasks, kinds, []api.Told{done(0), done(10)}, []int64{10})
}

func TestP2AnswersAreNewMemory(t *testing.T) {
	tasks, kinds := [][]api.Rise{{join(0, 5), read(0)}, {wait(0, 5), join(1, 6)}}, []int{api.Grow, api.Union}
	wantTold, wantNumbers := []api.Told{done(5), done(0)}, []int64{5, 6}
	told, numbers, _ := lattice.Run(tasks, kinds, 2)
	toldToo, numbersToo, _ := lattice.Run(tasks, kinds, 2)
	clear(told[:cap(told)])
	clear(numbers[:cap(numbers)])
	if !slices.Equal(toldToo, wantTold) || !slices.Equal(numbersToo, wantNumbers) {
		t.Error("two answers share memory:", toldToo, numbersToo)
	}
	hold(t, "behind spoilt answers", tasks, kinds, wantTold, wantNumbers)
}

// Lists may stand several times in what is handed in, and be used by others meanwhile.
func TestP2CallsSideBySide(t *testing.T) {
	d := dice(2)
	kinds := d.kinds(5)
	tasks := d.throw(5, 40, 8)
	tasks = append(tasks, tasks[:20]...)
	wantTold, wantNumbers := meaning(tasks, kinds)
	var calls sync.WaitGroup
	for workers := 1; workers <= 8; workers++ {
		calls.Go(func() {
			for range 20 {
				told, numbers, err := lattice.Run(tasks, kinds, workers)
				if err != api.OK || !slices.Equal(told, wantTold) || !slices.Equal(numbers, wantNumbers) {
					t.Error(workers, told, numbers, err)
				}
			}
		})
	}
	calls.Wait()
}
