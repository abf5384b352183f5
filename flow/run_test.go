package flow_test

import (
	"math"
	"runtime"
	"slices"
	"sync"
	"testing"
	"time"

	"lockstep/api"
	"lockstep/flow"
)

// made: what a node writes to each of its Outs in the end, if no more than this ever comes to its Ins.
func made(n api.Node, ins [][]int64) [][]int64 {
	var first, second []int64
	switch n.Kind {
	case api.Source:
		first = n.List
	case api.Map:
		for _, x := range ins[0] {
			first = append(first, x*31+n.N)
		}
	case api.Keep:
		for _, x := range ins[0] {
			if x/n.N*n.N == x {
				first = append(first, x)
			}
		}
	case api.Split:
		for i, x := range ins[0] {
			if i&1 == 0 {
				first = append(first, x)
			} else {
				second = append(second, x)
			}
		}
	case api.Zip:
		for i := range min(len(ins[0]), len(ins[1])) {
			first = append(first, ins[0][i]*31+ins[1][i])
		}
	case api.Turns:
		for i := 0; i/2 < len(ins[i%2]); i++ {
			first = append(first, ins[i%2][i/2])
		}
	case api.Delay:
		first = slices.Concat(n.List, ins[0])
	case api.Both:
		first, second = ins[0], ins[0]
	}
	return [][]int64{first, second}[:len(n.Out)]
}

// meaning: KAHN's: all channels begin empty, and become what is made of the others, again and again, till nothing comes of it any more. No node is ever stepped: so this hangs on no order at all.
func meaning(l []api.Node, channels, limit int) [][]int64 {
	lists := make([][]int64, channels)
	for grown := true; grown; {
		grown = false
		for _, n := range l {
			var ins [][]int64
			for _, in := range n.In {
				ins = append(ins, lists[in])
			}
			for i, list := range made(n, ins) {
				list = list[:min(len(list), limit)]
				grown = grown || len(list) > len(lists[n.Out[i]])
				lists[n.Out[i]] = list
			}
		}
	}
	return lists
}

func equal(a, b [][]int64) bool { return slices.EqualFunc(a, b, slices.Equal[[]int64]) }

// hold: Run answers this, however many work.
func hold(t *testing.T, what string, l []api.Node, limit int, want [][]int64) {
	t.Helper()
	for workers := 1; workers <= api.MaxWorkers; workers++ {
		lists, err := flow.Run(l, len(want), limit, workers)
		if err != api.OK {
			t.Fatalf("%s: %d workers: error %d", what, workers, err)
		}
		if !equal(lists, want) {
			t.Fatalf("%s: %d workers: %v, not %v", what, workers, lists, want)
		}
	}
}

type runCase struct {
	what  string
	l     []api.Node
	limit int
	lists [][]int64
}

func holdRuns(t *testing.T, cases []runCase) {
	t.Helper()
	for _, c := range cases {
		hold(t, c.what, c.l, c.limit, c.lists)
		if lists := meaning(c.l, len(c.lists), c.limit); !equal(lists, c.lists) {
			t.Errorf("%s: the meaning is said otherwise: %v", c.what, lists)
		}
	}
}

// Each kind of node by itself, behind Sources.
func TestP10RunKinds(t *testing.T) {
	holdRuns(t, []runCase{
		{"a Source", []api.Node{source(0, 4, -1, 4)}, 9, [][]int64{{4, -1, 4}}},
		{"a Source of nothing", []api.Node{source(0)}, 9, [][]int64{nil}},
		{"a Map", []api.Node{source(0, 1, -2, 0), mapped(0, 1, 5)}, 9, [][]int64{{1, -2, 0}, {36, -57, 5}}},
		{"a Map without N", []api.Node{source(0, 1, 2), mapped(0, 1, 0)}, 9, [][]int64{{1, 2}, {31, 62}}},
		{"a Keep", []api.Node{source(0, 3, 4, 0, -6, -7, 9, 1), keep(0, 1, 3)}, 9, [][]int64{{3, 4, 0, -6, -7, 9, 1}, {3, 0, -6, 9}}},
		{"a Keep of all", []api.Node{source(0, 3, -4, 0), keep(0, 1, 1)}, 9, [][]int64{{3, -4, 0}, {3, -4, 0}}},
		{"a Keep of great numbers", []api.Node{source(0, math.MaxInt64, math.MinInt64, 0, 1, math.MinInt64+1), keep(0, 1, math.MaxInt64)}, 9, [][]int64{{math.MaxInt64, math.MinInt64, 0, 1, math.MinInt64 + 1}, {math.MaxInt64, 0, math.MinInt64 + 1}}},
		{"a Split", []api.Node{source(0, 1, 2, 3, 4), split(0, 1, 2)}, 9, [][]int64{{1, 2, 3, 4}, {1, 3}, {2, 4}}},
		{"a Split of an odd number", []api.Node{source(0, 1, 2, 3), split(0, 2, 1)}, 9, [][]int64{{1, 2, 3}, {2}, {1, 3}}},
		{"a Split of one", []api.Node{source(0, 7), split(0, 1, 2)}, 9, [][]int64{{7}, {7}, nil}},
		{"a Zip", []api.Node{source(0, 1, 2), source(1, 3, -4), zip(0, 1, 2)}, 9, [][]int64{{1, 2}, {3, -4}, {34, 58}}},
		{"a Zip the other way round", []api.Node{source(0, 1, 2), source(1, 3, -4), zip(1, 0, 2)}, 9, [][]int64{{1, 2}, {3, -4}, {94, -122}}},
		{"a Zip, the first longer", []api.Node{source(0, 1, 2, 3), source(1, 3), zip(0, 1, 2)}, 9, [][]int64{{1, 2, 3}, {3}, {34}}},
		{"a Zip, the second longer", []api.Node{source(0, 1), source(1, 3, 4, 5), zip(0, 1, 2)}, 9, [][]int64{{1}, {3, 4, 5}, {34}}},
		{"a Turns", []api.Node{source(0, 1, 2), source(1, 3, 4), turns(0, 1, 2)}, 9, [][]int64{{1, 2}, {3, 4}, {1, 3, 2, 4}}},
		{"a Turns, the first longer", []api.Node{source(0, 1, 2, 3), source(1, 4), turns(0, 1, 2)}, 9, [][]int64{{1, 2, 3}, {4}, {1, 4, 2}}},
		{"a Turns, the second longer", []api.Node{source(0, 1), source(1, 3, 4, 5), turns(0, 1, 2)}, 9, [][]int64{{1}, {3, 4, 5}, {1, 3}}},
		{"a Turns without a first", []api.Node{source(1, 3, 4, 5), turns(0, 1, 2)}, 9, [][]int64{nil, {3, 4, 5}, nil}},
		{"a Delay", []api.Node{source(0, 1, 2), delay(0, 1, 8, 9)}, 9, [][]int64{{1, 2}, {8, 9, 1, 2}}},
		{"a Delay of nothing", []api.Node{source(0, 1, 2), delay(0, 1)}, 9, [][]int64{{1, 2}, {1, 2}}},
		{"a Delay to which nothing comes", []api.Node{delay(0, 1, 8, 9)}, 9, [][]int64{nil, {8, 9}}},
		{"a Both", []api.Node{source(0, 1, 2, 3), both(0, 1, 2)}, 9, [][]int64{{1, 2, 3}, {1, 2, 3}, {1, 2, 3}}},
		{"a Sink of fewer", []api.Node{source(0, 1, 2, 3), sink(0, 2)}, 9, [][]int64{{1, 2, 3}}},
		{"a Sink of more", []api.Node{source(0, 1, 2, 3), sink(0, math.MaxInt64)}, 9, [][]int64{{1, 2, 3}}},
		{"a Sink of none", []api.Node{source(0, 1, 2, 3), sink(0, 0)}, 9, [][]int64{{1, 2, 3}}},
	})
}

func TestP10RunNumbersRunOver(t *testing.T) {
	holdRuns(t, []runCase{
		// by 2^64: 31 (2^63 - 1), and 1, is 2^63 - 30; 31 times 2^62, and 1, is -2^62 + 1
		{"a Map", []api.Node{source(0, math.MaxInt64, 1<<62), mapped(0, 1, 1)}, 9, [][]int64{{math.MaxInt64, 1 << 62}, {math.MaxInt64 - 29, -1<<62 + 1}}},
		{"a Zip", []api.Node{source(0, 1<<62, 1<<62), source(1, math.MaxInt64, math.MinInt64), zip(0, 1, 2)}, 9, [][]int64{{1 << 62, 1 << 62}, {math.MaxInt64, math.MinInt64}, {1<<62 - 1, 1 << 62}}},
	})
}

func TestP11RunSmall(t *testing.T) {
	ring := []api.Node{delay(1, 0, 5), both(0, 1, 2)}
	halves := []api.Node{source(0, 1, 2, 3), split(0, 1, 2), mapped(1, 3, 1), zip(3, 2, 4)}
	holdRuns(t, []runCase{
		{"the document's example", ring, 3, [][]int64{{5, 5, 5}, {5, 5, 5}, {5, 5, 5}}},
		{"nothing", nil, 0, nil},
		{"channels alone", nil, 4, [][]int64{nil, nil, nil}},
		{"halves", halves, 9, [][]int64{{1, 2, 3}, {1, 3}, {2}, {32, 94}, {31*32 + 2}}},
		{"halves, the last node first", []api.Node{halves[3], halves[2], halves[1], halves[0]}, 9, [][]int64{{1, 2, 3}, {1, 3}, {2}, {32, 94}, {31*32 + 2}}},
		{"a channel between that nobody uses", []api.Node{source(2, 1), mapped(2, 0, 0)}, 9, [][]int64{{31}, nil, {1}}},
		{"split and taken in turns again", []api.Node{turns(1, 2, 3), split(0, 1, 2), source(0, 1, 2, 3)}, 9, [][]int64{{1, 2, 3}, {1, 3}, {2}, {1, 2, 3}}},
	})
}

func TestP11RunLimit(t *testing.T) {
	holdRuns(t, []runCase{
		{"a limit of 0", []api.Node{source(0, 1), delay(1, 2, 7), delay(3, 3, 7), sink(0, 0)}, 0, [][]int64{nil, nil, nil, nil}},
		{"a Source with more", []api.Node{source(0, 1, 2, 3)}, 2, [][]int64{{1, 2}}},
		{"a Source with as many", []api.Node{source(0, 1, 2)}, 2, [][]int64{{1, 2}}},
		{"a Delay's list is longer", []api.Node{source(0, 4), delay(0, 1, 1, 2, 3)}, 2, [][]int64{{4}, {1, 2}}},
		{"a Delay's list fills it", []api.Node{source(0, 4), delay(0, 1, 1, 2)}, 2, [][]int64{{4}, {1, 2}}},
		{"a Delay's list and one more", []api.Node{source(0, 4, 5), delay(0, 1, 1, 2)}, 3, [][]int64{{4, 5}, {1, 2, 4}}},
		{"a Turns of two that are full", []api.Node{source(0, 1, 2, 3), source(1, 4, 5, 6), turns(0, 1, 2)}, 3, [][]int64{{1, 2, 3}, {4, 5, 6}, {1, 4, 2}}},
		{"what was read makes no room", []api.Node{source(0, 1, 2, 3, 4), sink(0, 4)}, 2, [][]int64{{1, 2}}},
		{"one of each", []api.Node{source(0, 1, 2), both(0, 1, 2), zip(1, 2, 3), split(3, 4, 5)}, 1, [][]int64{{1}, {1}, {1}, {32}, {32}, nil}},
		{"one that is full holds no other", []api.Node{source(0, 6, 7), source(1, 1, 2, 3, 4, 5), mapped(1, 2, 0)}, 4, [][]int64{{6, 7}, {1, 2, 3, 4}, {31, 62, 93, 124}}},
		{"a Keep reads on beyond the limit of none", []api.Node{source(0, 1, 2, 3, 4), keep(0, 1, 4)}, 4, [][]int64{{1, 2, 3, 4}, {4}}},
	})
}

func TestP11RunRings(t *testing.T) {
	holdRuns(t, []runCase{
		{"a Delay into itself", []api.Node{delay(0, 0, 3, 4)}, 5, [][]int64{{3, 4, 3, 4, 3}}},
		{"a Delay of nothing into itself", []api.Node{delay(0, 0)}, 5, [][]int64{nil}},
		{"a Map into itself", []api.Node{mapped(0, 0, 1)}, 5, [][]int64{nil}},
		{"a ring of two Maps and nothing", []api.Node{mapped(0, 1, 1), mapped(1, 0, 1)}, 5, [][]int64{nil, nil}},
		{"steps", []api.Node{mapped(0, 1, 1), delay(1, 0, 0)}, 4, [][]int64{{0, 1, 32, 993}, {1, 32, 993, 31*993 + 1}}},
		{"sums of all that came", []api.Node{source(0, 5, 6, 7), zip(1, 0, 2), both(2, 3, 4), delay(3, 1, 0)}, 9, [][]int64{{5, 6, 7}, {0, 5, 161, 4998}, {5, 161, 4998}, {5, 161, 4998}, {5, 161, 4998}}},
		{"a ring in which some are lost", []api.Node{delay(2, 0, 2, 3, 4), keep(0, 1, 2), both(1, 2, 3)}, 7, [][]int64{{2, 3, 4, 2, 4, 2, 4}, {2, 4, 2, 4, 2, 4}, {2, 4, 2, 4, 2, 4}, {2, 4, 2, 4, 2, 4}}},
		{"a ring whose one number is not kept", []api.Node{delay(1, 0, 3), keep(0, 1, 2)}, 7, [][]int64{{3}, nil}},
		{"a Turns that waits for itself", []api.Node{source(0, 1, 2), turns(0, 1, 1)}, 6, [][]int64{{1, 2}, {1, 1, 2, 1}}},
		{"a Turns that waits for itself first", []api.Node{source(0, 1, 2), turns(1, 0, 1)}, 6, [][]int64{{1, 2}, nil}},
		{"a Split that goes round", []api.Node{delay(1, 0, 1, 2, 3), split(0, 2, 1)}, 9, [][]int64{{1, 2, 3, 2, 2}, {2, 2}, {1, 3, 2}}},
	})
}

func TestP11RunWaitsInVain(t *testing.T) {
	holdRuns(t, []runCase{
		{"all kinds, and nothing comes", []api.Node{mapped(0, 10, 1), keep(1, 11, 1), split(2, 12, 13), zip(3, 4, 14), turns(5, 6, 15), delay(7, 16), sink(8, 1), both(9, 17, 18)}, 5, make([][]int64, 19)},
		{"each waits for the other", []api.Node{zip(0, 1, 2), both(2, 3, 1), source(0, 1, 2)}, 5, [][]int64{{1, 2}, nil, nil, nil}},
		{"one waits, one beside it does not", []api.Node{mapped(0, 1, 1), source(2, 4, 5), mapped(2, 3, 1)}, 5, [][]int64{nil, nil, {4, 5}, {125, 156}}},
		{"behind one that waits", []api.Node{source(0, 1, 2, 3), source(1, 9), turns(0, 1, 2), mapped(2, 3, 0)}, 5, [][]int64{{1, 2, 3}, {9}, {1, 9, 2}, {31, 279, 62}}},
		{"behind one at its limit", []api.Node{delay(2, 0, 1, 2, 3), split(0, 1, 2)}, 4, [][]int64{{1, 2, 3, 2}, {1, 3}, {2, 2}}},
	})
}

// A node that waits holds no worker: were it to keep one, these would never end.
func TestP11RunMoreWaitThanWork(t *testing.T) {
	var chain []api.Node
	for i := range api.MaxCells - 1 {
		chain = append(chain, mapped(i+1, i, 1))
	}
	chain = append(chain, source(api.MaxCells-1, 1, 2, 3, 4))
	lists := meaning(chain, api.MaxCells, 3)
	if len(lists[0]) != 3 {
		t.Fatal("the chain comes not to its end", lists[0])
	}
	hold(t, "a chain from behind", chain, 3, lists)

	ring := slices.Clone(chain)
	ring[api.MaxCells-1] = delay(0, api.MaxCells-1, 1)
	lists = meaning(ring, api.MaxCells, 30)
	if len(lists[0]) != 30 {
		t.Fatal("the ring comes not to its end", lists[0])
	}
	hold(t, "one number goes round", ring, 30, lists)
}

// dice gives numbers that are the same in every run of the tests.
type dice uint64

func (d *dice) below(n int) int {
	*d = *d*6364136223846793005 + 1442695040888963407
	return int(uint64(*d) >> 33 % uint64(n))
}

// all: the numbers below n, in any order.
func (d *dice) all(n int) []int {
	l := make([]int, n)
	for i := range l {
		j := d.below(i + 1)
		l[i], l[j] = l[j], i
	}
	return l
}

// list: up to so many small numbers.
func (d *dice) list(most int) []int64 {
	var l []int64
	for range d.below(most + 1) {
		l = append(l, int64(d.below(41))-20)
	}
	return l
}

// kind: any; those that begin with numbers of their own more often, lest most of them wait in vain from the first.
func (d *dice) kind() int {
	switch d.below(3) {
	case 0:
		return api.Source
	case 1:
		return api.Delay
	}
	return 1 + d.below(api.Both)
}

// throw: nodes over so many channels, as many as there is room for if every channel is read once and written once.
func throw(d *dice, channels int) []api.Node {
	ins, outs := d.all(channels), d.all(channels)
	var l []api.Node
	for len(ins) >= 2 && len(outs) >= 2 {
		kind := d.kind()
		n := changed(ofEachKind()[kind-1], func(n *api.Node) {
			ins = ins[copy(n.In, ins):]
			outs = outs[copy(n.Out, outs):]
		})
		switch kind {
		case api.Source:
			n.List = d.list(12)
		case api.Delay:
			n.List = d.list(4)
		case api.Map, api.Keep, api.Sink:
			n.N = int64(1 + d.below(3))
		}
		l = append(l, n)
	}
	return l
}

func TestP11RunIsTheMeaning(t *testing.T) {
	d := dice(1)
	full, short, empty := 0, 0, 0
	for range 400 {
		channels, limit := 1+d.below(14), d.below(16)
		l := throw(&d, channels)
		lists := meaning(l, channels, limit)
		for _, list := range lists {
			switch len(list) {
			case 0:
				empty++
			case limit:
				full++
			default:
				short++
			}
		}
		hold(t, "thrown", l, limit, lists)
	}
	if full < 300 || short < 300 || empty < 300 {
		t.Error("the dice throw too few of one kind:", full, short, empty)
	}
	for range 20 {
		l := throw(&d, api.MaxCells)
		hold(t, "thrown, great", l, 50, meaning(l, api.MaxCells, 50))
	}
}

// counted: so many numbers.
func counted(n int) []int64 {
	l := make([]int64, n)
	for i := range l {
		l[i] = int64(i*i - 7)
	}
	return l
}

func TestP11RunAtTheLimits(t *testing.T) {
	numbers := counted(api.MaxOps)
	var most []api.Node
	for i := range api.MaxCells {
		most = append(most, sink(i, api.MaxOps), source(i, numbers...))
	}
	hold(t, "as many nodes and numbers as may be", most, api.MaxOps, slices.Repeat([][]int64{numbers}, api.MaxCells))

	chain := []api.Node{source(0, numbers...)}
	for i := range api.MaxCells - 1 {
		chain = append(chain, delay(i, i+1, numbers[:i]...))
	}
	hold(t, "a chain", chain, api.MaxOps, meaning(chain, api.MaxCells, api.MaxOps))

	ring := []api.Node{delay(api.MaxCells-1, 0, 1)}
	for i := range api.MaxCells - 1 {
		ring = append(ring, mapped(i, i+1, 1))
	}
	lists := meaning(ring, api.MaxCells, api.MaxOps)
	for workers := 1; workers <= api.MaxWorkers; workers += 5 {
		if got, err := flow.Run(ring, api.MaxCells, api.MaxOps, workers); err != api.OK || !equal(got, lists) {
			t.Error("one number that goes round:", workers, err)
		}
	}
}

func TestP11RunErrArgOfWorkers(t *testing.T) {
	for _, workers := range []int{math.MinInt, -1, 0, api.MaxWorkers + 1, math.MaxInt} {
		for _, l := range [][]api.Node{{source(0, 1)}, nil} {
			if lists, err := flow.Run(l, 1, 1, workers); err != api.ErrArg || lists != nil {
				t.Error(workers, lists, err)
			}
		}
		if _, err := flow.Run(slices.Repeat([]api.Node{source(0)}, api.MaxTasks+1), 1, 1, workers); err != api.ErrLarge {
			t.Error("Check comes first:", err)
		}
		if _, err := flow.Run([]api.Node{source(0), source(0)}, 1, 1, workers); err != api.ErrTwice {
			t.Error("Check comes first:", err)
		}
	}
}

// goroutines: how many there are. runtime.NumGoroutine is not asked: it adds up numbers that change meanwhile, and may be wrong by dozens; a profile stops all others while it counts, even one for which there is no room.
func goroutines() int {
	n, _ := runtime.GoroutineProfile(make([]runtime.StackRecord, 1))
	return n
}

// settled: how many goroutines there are, when those that are just leaving have been given time to do so.
func settled(want int) int {
	n := goroutines()
	for range 5000 {
		if n <= want {
			break
		}
		time.Sleep(time.Millisecond)
		n = goroutines()
	}
	return n
}

// watch counts goroutines, its own too, till it is over, and then tells the greatest number.
func watch(over <-chan struct{}, seen chan<- int) {
	most := 0
	for {
		select {
		case <-over:
			seen <- most
			return
		default:
			most = max(most, goroutines())
		}
	}
}

// Looking on from beside may miss some goroutines, but never sees more than there are.
func TestP11RunNoMoreThanWorkers(t *testing.T) {
	const workers = 2
	var l []api.Node
	for i := range api.MaxCells {
		l = append(l, delay(i, i, 1))
	}
	over, seen := make(chan struct{}), make(chan int)
	before := goroutines() + 1
	go watch(over, seen)
	for range 5 {
		flow.Run(l, api.MaxCells, api.MaxOps, workers)
		settled(before)
	}
	close(over)
	if most := <-seen - before; most > workers {
		t.Error("goroutines beside the test's own:", most)
	}
}

func TestP1GoroutinesHaveEnded(t *testing.T) {
	before := goroutines()
	d := dice(3)
	for range 50 {
		flow.Run(throw(&d, 20), 20, 10, api.MaxWorkers)
		flow.Run(nil, 0, 0, api.MaxWorkers)
		flow.Run([]api.Node{mapped(0, 1, 1), delay(2, 2, 1)}, 3, 4, api.MaxWorkers)
		flow.Run([]api.Node{{}}, 1, 1, api.MaxWorkers)
	}
	if after := settled(before); after > before {
		t.Error("goroutines are left:", after-before)
	}
}

// marked: the list with marks in the room behind it.
func marked[T any](l []T, mark T) []T {
	return append(slices.Clone(l), mark, mark, mark)[:len(l)]
}

// untouched: is the list with its marks as it was?
func untouched[T comparable](l, was []T, mark T) bool {
	return slices.Equal(l[:len(l)+3], append(slices.Clone(was), mark, mark, mark))
}

func TestP2NothingIsChangedOrKept(t *testing.T) {
	d := dice(4)
	for range 20 {
		channels := 2 + d.below(10)
		thrown := throw(&d, channels)
		l := marked(thrown, sink(-7, -7))
		for i, n := range thrown {
			l[i].In, l[i].Out, l[i].List = marked(n.In, -7), marked(n.Out, -7), marked(n.List, -7)
		}
		for workers := 1; workers <= api.MaxWorkers; workers++ {
			flow.Run(l, channels, 10, workers)
			flow.Check(l, channels, 10)
		}
		for i, n := range thrown {
			if l[i].Kind != n.Kind || l[i].N != n.N || !untouched(l[i].In, n.In, -7) || !untouched(l[i].Out, n.Out, -7) || !untouched(l[i].List, n.List, -7) {
				t.Fatal("changed:", i, l[i])
			}
		}
		for _, room := range l[len(l) : len(l)+3] {
			if room.Kind != api.Sink || room.N != -7 || !slices.Equal(room.In, []int{-7}) || room.Out != nil || room.List != nil {
				t.Fatal("changed behind the nodes:", room)
			}
		}
	}
	l := []api.Node{source(0, 1, 2), mapped(0, 1, 0)}
	hold(t, "first", l, 9, [][]int64{{1, 2}, {31, 62}})
	l[0].List[0], l[1].N = 4, 1
	hold(t, "as it is now", l, 9, [][]int64{{4, 2}, {125, 63}})
}

func TestP2AnswersAreNewMemory(t *testing.T) {
	for _, limit := range []int{3, 4} {
		l := []api.Node{source(0, 1, 2, 3), both(0, 1, 2), delay(1, 3, 1, 2, 3), sink(3, 0)}
		want := meaning(l, 5, limit)
		for i := range want {
			first, _ := flow.Run(l, 5, limit, 2)
			second, _ := flow.Run(l, 5, limit, 2)
			spoilt := first[i][:cap(first[i])]
			for j := range spoilt {
				spoilt[j] = -1
			}
			first[i] = want[i]
			if !equal(first, want) {
				t.Error("two lists of one answer share memory:", i, first)
			}
			clear(first[:cap(first)])
			if !equal(second, want) {
				t.Error("two answers share memory:", i, second)
			}
			if !slices.Equal(l[0].List, []int64{1, 2, 3}) || !slices.Equal(l[2].List, []int64{1, 2, 3}) {
				t.Fatal("an answer shares memory with what was handed in:", i, l)
			}
		}
		hold(t, "behind spoilt answers", l, limit, want)
	}
}

// Lists may stand several times in what is handed in, and be used by others meanwhile.
func TestP2CallsSideBySide(t *testing.T) {
	list := counted(30)
	l := []api.Node{source(0, list...), delay(0, 1, list[5:20]...), source(2, list[:9]...), turns(1, 2, 3), delay(5, 4, list...), both(4, 5, 6)}
	want := meaning(l, 7, 60)
	var calls sync.WaitGroup
	for workers := 1; workers <= 8; workers++ {
		calls.Go(func() {
			for range 20 {
				if lists, err := flow.Run(l, 7, 60, workers); err != api.OK || !equal(lists, want) {
					t.Error(workers, lists, err)
				}
			}
		})
	}
	calls.Wait()
}
