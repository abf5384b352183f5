package pool_test

import (
	"math"
	"runtime"
	"slices"
	"sync"
	"testing"
	"time"

	"lockstep/api"
	"lockstep/pool"
)

// meaning: the number of a tree, one kid behind the other.
func meaning(t api.Tree) int64 {
	if t.Kind == api.Leaf {
		return t.N
	}
	made := int64(0)
	if t.Kind == api.Chain {
		made = 7
	}
	for i, kid := range t.Kids {
		n := meaning(kid)
		switch {
		case t.Kind == api.Chain:
			made = made*31 + n
		case i == 0:
			made = n
		case t.Kind == api.Plus:
			made += n
		case t.Kind == api.Minus:
			made -= n
		case n > made:
			made = n
		}
	}
	return made
}

// hold: Run answers this, however many work.
func hold(t *testing.T, what string, tree api.Tree, want int64) {
	t.Helper()
	for workers := 1; workers <= api.MaxWorkers; workers++ {
		if got, err := pool.Run(tree, workers); got != want || err != api.OK {
			t.Fatalf("%s: %d workers: %d, error %d, not %d", what, workers, got, err, want)
		}
	}
}

func TestP5RunSmall(t *testing.T) {
	one, two, three := leaf(1), leaf(2), leaf(3)
	cases := []struct {
		what string
		tree api.Tree
		want int64
	}{
		{"the document's example", fork(api.Minus, leaf(10), leaf(3), fork(api.Plus)), 7},
		{"a Leaf", leaf(-12), -12},
		{"a Plus of nothing", fork(api.Plus), 0},
		{"a Minus of nothing", fork(api.Minus), 0},
		{"a Most of nothing", fork(api.Most), 0},
		{"a Chain of nothing", fork(api.Chain), 7},
		{"a Plus of one", fork(api.Plus, three), 3},
		{"a Minus of one", fork(api.Minus, three), 3},
		{"a Most of one below 0", fork(api.Most, leaf(-3)), -3},
		{"a Chain of one", fork(api.Chain, three), 31*7 + 3},
		{"a Plus", fork(api.Plus, one, two, three), 6},
		{"a Minus", fork(api.Minus, one, two, three), -4},
		{"a Minus from the left", fork(api.Minus, three, two, one), 0},
		{"a Most whose first is it", fork(api.Most, three, one, two), 3},
		{"a Most whose last is it", fork(api.Most, leaf(-3), leaf(-2), leaf(-1)), -1},
		{"a Most of nothing among those below 0", fork(api.Most, leaf(-3), fork(api.Most)), 0},
		{"a Chain", fork(api.Chain, one, two), 31*(31*7+1) + 2},
		{"a Chain the other way round", fork(api.Chain, two, one), 31*(31*7+2) + 1},
		{"a Minus of trees", fork(api.Minus, fork(api.Plus, one, two), fork(api.Minus, one, three), fork(api.Chain)), 3 + 2 - 7},
		{"one below the other", under(99, leaf(9)), 9},
	}
	for _, c := range cases {
		hold(t, c.what, c.tree, c.want)
	}
}

func TestP5RunNumbersRunOver(t *testing.T) {
	least, most := leaf(math.MinInt64), leaf(math.MaxInt64)
	hold(t, "above", fork(api.Plus, most, leaf(1)), math.MinInt64)
	hold(t, "below", fork(api.Minus, least, leaf(1)), math.MaxInt64)
	hold(t, "less the least", fork(api.Minus, leaf(0), least), math.MinInt64)
	hold(t, "the greatest does not", fork(api.Most, least, most, leaf(0)), math.MaxInt64)
	// by 2^64: 31 (31 * 7 + 2^63) + 2^63 is 31 * 31 * 7, as 32 * 2^63 is nothing
	hold(t, "a Chain", fork(api.Chain, least, least), 31*31*7)
}

// dice gives numbers that are the same in every run of the tests.
type dice uint64

func (d *dice) below(n int) int {
	*d = *d*6364136223846793005 + 1442695040888963407
	return int(uint64(*d) >> 33 % uint64(n))
}

// throw: a tree of that depth at most, each of whose nodes has so many kids at most.
func throw(d *dice, depth, kids int) api.Tree {
	if depth == 1 || d.below(4) == 0 {
		return leaf(int64(d.below(2000)) - 1000)
	}
	t := fork(api.Plus + d.below(4))
	for range d.below(kids + 1) {
		t.Kids = append(t.Kids, throw(d, depth-1, kids))
	}
	return t
}

func TestP5RunIsTheMeaning(t *testing.T) {
	d := dice(1)
	for range 200 {
		tree := throw(&d, 2+d.below(6), 5)
		hold(t, "thrown", tree, meaning(tree))
	}
	for range 5 {
		tree := fork(api.Chain)
		for range 20 {
			tree.Kids = append(tree.Kids, throw(&d, 8, 5))
		}
		if pool.Check(tree) != api.OK {
			t.Fatal("the dice throw too many:", count(tree))
		}
		hold(t, "thrown, great", tree, meaning(tree))
	}
}

// comb: a tree of that depth, each of whose nodes has leaves on both sides of the next one below.
func comb(depth int) api.Tree {
	t := fork(api.Chain)
	for i := range depth - 1 {
		t = fork(api.Plus+i%4, leaf(int64(i)), t, leaf(int64(-i)))
	}
	return t
}

func TestP5RunAtTheLimits(t *testing.T) {
	great := sized(api.MaxItems, leaf(-5))
	hold(t, "as many nodes as may be", great, meaning(great))
	deep := fork(api.Minus)
	for range 100 {
		deep.Kids = append(deep.Kids, comb(99))
	}
	hold(t, "a hundred as deep as may be", deep, meaning(deep))
	shared := doubled(15, fork(api.Chain))
	hold(t, "one list at many places", shared, 7<<15)
}

func TestP5RunErrArgOfWorkers(t *testing.T) {
	for _, workers := range []int{math.MinInt, -1, 0, api.MaxWorkers + 1, math.MaxInt} {
		if n, err := pool.Run(leaf(3), workers); n != 0 || err != api.ErrArg {
			t.Error(workers, n, err)
		}
		if n, err := pool.Run(under(100, leaf(3)), workers); n != 0 || err != api.ErrLarge {
			t.Error("Check comes first:", n, err)
		}
	}
}

// goroutines: how many there are. runtime.NumGoroutine is not asked: it adds up numbers that change meanwhile, and may be wrong by dozens; a profile stops all others while it counts, even one for which there is no room.
func goroutines() int {
	n, _ := runtime.GoroutineProfile(make([]runtime.StackRecord, 1))
	return n
}

// settled: how many goroutines there are, when those that are just leaving have been given time to do so.
func settled(want int) int {
	n := goroutines()
	for range 5000 {
		if n <= want {
			break
		}
		time.Sleep(time.Millisecond)
		n = goroutines()
	}
	return n
}

// watch counts goroutines, its own too, till it is over, and then tells the greatest number.
func watch(over <-chan struct{}, seen chan<- int) {
	most := 0
	for {
		select {
		case <-over:
			seen <- most
			return
		default:
			most = max(most, goroutines())
		}
	}
}

// Looking on from beside may miss some goroutines, but never sees more than there are.
func TestP5RunNoMoreThanWorkers(t *testing.T) {
	const workers = 2
	tree := sized(api.MaxItems, leaf(1))
	over, seen := make(chan struct{}), make(chan int)
	before := goroutines() + 1
	go watch(over, seen)
	for range 10 {
		pool.Run(tree, workers)
		settled(before)
	}
	close(over)
	if most := <-seen; most > before+workers {
		t.Error("goroutines beside the test's own:", most-before)
	}
}

func TestP1GoroutinesHaveEnded(t *testing.T) {
	before := goroutines()
	tree := comb(50)
	for range 50 {
		pool.Run(tree, api.MaxWorkers)
		pool.Run(leaf(1), api.MaxWorkers)
		pool.Run(api.Tree{}, api.MaxWorkers)
		pool.Greedy(tree, api.MaxWorkers)
	}
	if after := settled(before); after > before {
		t.Error("goroutines are left:", after-before)
	}
}

// room: a list with marks in the room behind it, twice as long as the list.
func room(kids ...api.Tree) []api.Tree {
	mark := api.Tree{Kind: -7, N: -7}
	return append(slices.Clone(kids), mark, mark)[:len(kids)]
}

// copied: the tree in new memory, with two of the room behind each list.
func copied(t api.Tree) api.Tree {
	if t.Kids == nil {
		return t
	}
	kids := make([]api.Tree, len(t.Kids)+2)
	for i, kid := range t.Kids[:len(kids)] {
		kids[i] = copied(kid)
	}
	t.Kids = kids[:len(t.Kids)]
	return t
}

// alike: are two trees the same, the room behind their lists included?
func alike(a, b api.Tree) bool {
	if a.Kind != b.Kind || a.N != b.N || len(a.Kids) != len(b.Kids) || (a.Kids == nil) != (b.Kids == nil) {
		return false
	}
	return a.Kids == nil || slices.EqualFunc(a.Kids[:len(a.Kids)+2], b.Kids[:len(b.Kids)+2], alike)
}

func TestP2NothingIsChangedOrKept(t *testing.T) {
	inner := api.Tree{Kind: api.Chain, Kids: room(leaf(1), leaf(2))}
	tree := api.Tree{Kind: api.Minus, Kids: room(leaf(5), inner, api.Tree{Kind: api.Plus, Kids: room()})}
	before := copied(tree)
	hold(t, "first", tree, 5-(31*(31*7+1)+2))
	pool.Check(tree)
	pool.Work(tree)
	pool.Greedy(tree, 2)
	if !alike(tree, before) {
		t.Error("changed:", tree, before)
	}
	tree.Kids[0], tree.Kids[1].Kids[0] = leaf(6), leaf(0)
	hold(t, "as it is now", tree, 6-(31*(31*7)+2))
}

func TestP2CallsSideBySide(t *testing.T) {
	d := dice(2)
	tree := fork(api.Chain, throw(&d, 9, 5), throw(&d, 9, 5), comb(60))
	want := meaning(tree)
	var all sync.WaitGroup
	for workers := 1; workers <= 8; workers++ {
		all.Go(func() {
			for range 20 {
				if n, err := pool.Run(tree, workers); n != want || err != api.OK {
					t.Error(workers, n, err)
				}
			}
		})
	}
	all.Wait()
}
