package pool_test

import (
	"math"
	"testing"

	"lockstep/api"
	"lockstep/pool"
)

// spanOf: how deep a tree is.
func spanOf(t api.Tree) int {
	deepest := 0
	for _, kid := range t.Kids {
		deepest = max(deepest, spanOf(kid))
	}
	return 1 + deepest
}

// byWords: the document's rounds: in each, all nodes are gone over from the left, level by level from below, and so many that can be are worked out.
func byWords(t api.Tree, workers int) int {
	byDepth := map[int][]*item{}
	root := gather(t, 1, byDepth)
	rounds := 0
	for root.round == 0 {
		rounds++
		free := workers
		for depth := len(byDepth); depth > 0; depth-- {
			for _, one := range byDepth[depth] {
				if free > 0 && one.canBe(rounds) {
					one.round = rounds
					free--
				}
			}
		}
	}
	return rounds
}

// item is a node, and the round in which it was worked out.
type item struct {
	kids  []*item
	round int
}

func gather(t api.Tree, depth int, byDepth map[int][]*item) *item {
	one := &item{}
	byDepth[depth] = append(byDepth[depth], one)
	for _, kid := range t.Kids {
		one.kids = append(one.kids, gather(kid, depth+1, byDepth))
	}
	return one
}

func (one *item) canBe(round int) bool {
	for _, kid := range one.kids {
		if kid.round == 0 || kid.round == round {
			return false
		}
	}
	return one.round == 0
}

// hu: no fewer rounds can be: those at a depth and below it must all have been, and then one behind the other up to the root.
func hu(t api.Tree, workers int) int {
	byDepth := map[int][]*item{}
	gather(t, 1, byDepth)
	least, below := 0, 0
	for depth := len(byDepth); depth > 0; depth-- {
		below += len(byDepth[depth])
		least = max(least, (below+workers-1)/workers+depth-1)
	}
	return least
}

func TestP6WorkSmall(t *testing.T) {
	cases := []struct {
		what       string
		tree       api.Tree
		work, span int
	}{
		{"the document's example", fork(api.Plus, leaves(4)...), 5, 2},
		{"a Leaf", leaf(7), 1, 1},
		{"nothing", fork(api.Most), 1, 1},
		{"one below the other", under(99, leaf(1)), 100, 100},
		{"deep on the left", fork(api.Plus, under(5, leaf(1)), leaf(2)), 8, 7},
		{"deep on the right", fork(api.Plus, leaf(2), under(5, leaf(1))), 8, 7},
		{"as many kids as may be", fork(api.Chain, leaves(100)...), 101, 2},
		{"one list at many places", doubled(15, leaf(1)), 1<<16 - 1, 16},
		{"as many nodes as may be", sized(api.MaxItems, leaf(1)), api.MaxItems, 4},
	}
	for _, c := range cases {
		if work, span, err := pool.Work(c.tree); work != c.work || span != c.span || err != api.OK {
			t.Error(c.what, work, span, err)
		}
	}
}

func TestP6GreedySmall(t *testing.T) {
	cases := []struct {
		what          string
		tree          api.Tree
		workers, want int
	}{
		{"the document's example", fork(api.Plus, leaves(4)...), 3, 3},
		{"a Leaf", leaf(7), 16, 1},
		{"all behind each other", fork(api.Plus, leaves(4)...), 1, 5},
		{"workers enough", fork(api.Plus, leaves(4)...), 4, 2},
		{"workers too many", fork(api.Plus, leaves(4)...), 16, 2},
		{"one below the other", under(99, leaf(1)), 16, 100},
		{"the deepest first, behind leaves", fork(api.Plus, leaf(1), leaf(2), leaf(3), under(3, leaf(4))), 2, 5},
		{"the deepest first, ahead of leaves", fork(api.Plus, under(3, leaf(4)), leaf(1), leaf(2), leaf(3)), 2, 5},
		{"a node waits for all its kids", fork(api.Plus, fork(api.Plus, leaves(3)...), leaf(1)), 2, 4},
		{"not in the round of its kid", fork(api.Plus, fork(api.Plus), fork(api.Plus, leaf(1))), 16, 3},
		{"as many kids as may be", fork(api.Plus, leaves(100)...), 16, 8},
	}
	for _, c := range cases {
		if got, err := pool.Greedy(c.tree, c.workers); got != c.want || err != api.OK {
			t.Errorf("%s: %d rounds, error %d, not %d", c.what, got, err, c.want)
		}
	}
}

// holdRounds: Greedy is what the words say, as few as can be, and keeps to its bounds.
func holdRounds(t *testing.T, tree api.Tree, workers int) {
	t.Helper()
	got, err := pool.Greedy(tree, workers)
	if want := hu(tree, workers); got != want || err != api.OK {
		t.Fatalf("%d workers: %d rounds, error %d, not %d: %v", workers, got, err, want, tree)
	}
	work, span, _ := pool.Work(tree)
	if work != count(tree) || span != spanOf(tree) {
		t.Fatalf("work %d, not %d; span %d, not %d", work, count(tree), span, spanOf(tree))
	}
	if got < span || got*workers < work || got > (work-span+workers-1)/workers+span {
		t.Fatalf("%d workers: %d rounds, of work %d and span %d", workers, got, work, span)
	}
}

func TestP6GreedyIsWhatTheWordsSay(t *testing.T) {
	d := dice(3)
	nodes := 0
	for range 200 {
		tree := throw(&d, 3+d.below(6), 5)
		nodes += count(tree)
		for workers := 1; workers <= api.MaxWorkers; workers++ {
			holdRounds(t, tree, workers)
			if got, _ := pool.Greedy(tree, workers); got != byWords(tree, workers) {
				t.Fatalf("%d workers: %d rounds, not %d: %v", workers, got, byWords(tree, workers), tree)
			}
		}
	}
	if nodes < 200*30 {
		t.Error("the dice throw too few nodes:", nodes)
	}
}

func TestP6GreedyAtTheLimits(t *testing.T) {
	deep := fork(api.Minus)
	for i := range 100 {
		deep.Kids = append(deep.Kids, comb(99-i))
	}
	for _, tree := range []api.Tree{sized(api.MaxItems, leaf(1)), deep, doubled(15, leaf(1))} {
		for _, workers := range []int{1, 2, 3, 7, api.MaxWorkers} {
			holdRounds(t, tree, workers)
		}
	}
}

func TestP6GreedyErrArgOfWorkers(t *testing.T) {
	for _, workers := range []int{math.MinInt, -1, 0, api.MaxWorkers + 1, math.MaxInt} {
		if n, err := pool.Greedy(leaf(3), workers); n != 0 || err != api.ErrArg {
			t.Error(workers, n, err)
		}
		if n, err := pool.Greedy(under(100, leaf(3)), workers); n != 0 || err != api.ErrLarge {
			t.Error("Check comes first:", n, err)
		}
	}
}
