package pool_test

import (
	"math"
	"slices"
	"testing"

	"lockstep/api"
	"lockstep/pool"
)

func leaf(n int64) api.Tree { return api.Tree{Kind: api.Leaf, N: n} }

func fork(kind int, kids ...api.Tree) api.Tree { return api.Tree{Kind: kind, Kids: kids} }

// leaves: so many, from 1 on.
func leaves(count int) []api.Tree {
	l := make([]api.Tree, count)
	for i := range l {
		l[i] = leaf(int64(i + 1))
	}
	return l
}

// under: the tree below so many nodes, one below the other.
func under(levels int, t api.Tree) api.Tree {
	for range levels {
		t = fork(api.Plus, t)
	}
	return t
}

// sized: a tree of so many nodes, 4 deep at most, with the one that is given as its last leaf.
func sized(nodes int, last api.Tree) api.Tree {
	root := fork(api.Plus)
	for nodes--; nodes > 0; {
		branch := fork(api.Chain)
		for nodes--; nodes > 0 && len(branch.Kids) < 99; {
			twig := fork(api.Plus)
			for nodes--; nodes > 0 && len(twig.Kids) < 100; nodes-- {
				twig.Kids = append(twig.Kids, leaf(int64(nodes)))
			}
			branch.Kids = append(branch.Kids, twig)
		}
		root.Kids = append(root.Kids, branch)
	}
	list := root.Kids
	for len(list[len(list)-1].Kids) > 0 {
		list = list[len(list)-1].Kids
	}
	list[len(list)-1] = last
	return root
}

// count: how many nodes there are.
func count(t api.Tree) int {
	n := 1
	for _, kid := range t.Kids {
		n += count(kid)
	}
	return n
}

// doubled: a tree each of whose nodes has the same two kids, which are one list in memory for each level.
func doubled(levels int, t api.Tree) api.Tree {
	for range levels {
		t = fork(api.Plus, t, t)
	}
	return t
}

type checkCase struct {
	what string
	tree api.Tree
	want api.Errno
}

// holdCases: all calls say the error that is wanted, with zeros beside it, those of workers also if their workers are wrong.
func holdCases(t *testing.T, cases []checkCase) {
	t.Helper()
	for _, c := range cases {
		if got := pool.Check(c.tree); got != c.want {
			t.Errorf("%s: Check says %d, not %d", c.what, got, c.want)
		}
		if work, span, got := pool.Work(c.tree); got != c.want || got != api.OK && (work != 0 || span != 0) {
			t.Errorf("%s: Work says %d %d %d, not error %d", c.what, work, span, got, c.want)
		}
		for _, workers := range []int{1, api.MaxWorkers, 0, api.MaxWorkers + 1} {
			want := c.want
			if want == api.OK && workers != 1 && workers != api.MaxWorkers {
				want = api.ErrArg
			}
			if n, got := pool.Run(c.tree, workers); got != want || got != api.OK && n != 0 {
				t.Errorf("%s: Run with %d workers says %d %d, not error %d", c.what, workers, n, got, want)
			}
			if n, got := pool.Greedy(c.tree, workers); got != want || got != api.OK && n != 0 {
				t.Errorf("%s: Greedy with %d workers says %d %d, not error %d", c.what, workers, n, got, want)
			}
		}
	}
}

func TestP5CheckTakesTrees(t *testing.T) {
	if n := count(sized(api.MaxItems, leaf(1))); n != api.MaxItems {
		t.Fatal("the greatest tree has nodes:", n)
	}
	holdCases(t, []checkCase{
		{"a Leaf", leaf(5), api.OK},
		{"a Leaf of 0", leaf(0), api.OK},
		{"a Leaf of any number", fork(api.Plus, leaf(math.MinInt64), leaf(math.MaxInt64)), api.OK},
		{"a Leaf with an empty list", api.Tree{Kind: api.Leaf, N: 1, Kids: []api.Tree{}}, api.OK},
		{"a Leaf with room behind its list", api.Tree{Kind: api.Leaf, Kids: leaves(3)[:0]}, api.OK},
		{"a Plus of nothing", fork(api.Plus), api.OK},
		{"a Minus of nothing", fork(api.Minus), api.OK},
		{"a Most of an empty list", api.Tree{Kind: api.Most, Kids: []api.Tree{}}, api.OK},
		{"a Chain of nothing", fork(api.Chain), api.OK},
		{"all kinds", fork(api.Plus, fork(api.Minus, leaf(1)), fork(api.Most, fork(api.Chain))), api.OK},
		{"as many kids as may be", fork(api.Most, leaves(100)...), api.OK},
		{"as deep as may be", under(99, leaf(1)), api.OK},
		{"as deep as may be, without a Leaf", under(99, fork(api.Most)), api.OK},
		{"as many nodes as may be", sized(api.MaxItems, leaf(1)), api.OK},
		{"one list at many places", doubled(15, leaf(1)), api.OK},
	})
}

func TestP5CheckErrArg(t *testing.T) {
	cases := []checkCase{
		{"kind 0", api.Tree{}, api.ErrArg},
		{"kind 6", api.Tree{Kind: 6}, api.ErrArg},
		{"kind -1", api.Tree{Kind: -1}, api.ErrArg},
		{"kind 0 with kids", fork(0, leaf(1)), api.ErrArg},
		{"a Leaf with a kid", api.Tree{Kind: api.Leaf, Kids: leaves(1)}, api.ErrArg},
		{"too many kids of a Leaf", api.Tree{Kind: api.Leaf, Kids: leaves(101)}, api.ErrArg},
		{"a wrong kid ahead", fork(api.Plus, api.Tree{}, leaf(1)), api.ErrArg},
		{"a wrong kid behind", fork(api.Plus, leaf(1), leaf(2), api.Tree{Kind: 9}), api.ErrArg},
		{"a wrong node far below", under(98, fork(api.Plus, leaf(1), api.Tree{})), api.ErrArg},
		{"a wrong node at the end of the greatest", sized(api.MaxItems, api.Tree{Kind: 6}), api.ErrArg},
	}
	for _, kind := range []int{api.Plus, api.Minus, api.Most, api.Chain} {
		cases = append(cases,
			checkCase{"N without kids", api.Tree{Kind: kind, N: 1}, api.ErrArg},
			checkCase{"N beside kids", api.Tree{Kind: kind, N: -1, Kids: leaves(2)}, api.ErrArg},
			checkCase{"too many kids", fork(kind, leaves(101)...), api.ErrArg},
			checkCase{"far too many kids", fork(kind, leaves(api.MaxItems+1)...), api.ErrArg},
		)
	}
	holdCases(t, cases)
}

func TestP5CheckErrLarge(t *testing.T) {
	holdCases(t, []checkCase{
		{"too deep", under(100, leaf(1)), api.ErrLarge},
		{"too deep without a Leaf", under(100, fork(api.Plus)), api.ErrLarge},
		{"too deep at one place", fork(api.Plus, leaf(1), under(99, leaf(1)), leaf(2)), api.ErrLarge},
		{"far too deep", under(1<<16-1, leaf(1)), api.ErrLarge},
		{"too many nodes", sized(api.MaxItems+1, leaf(1)), api.ErrLarge},
		{"far too many nodes", sized(3*api.MaxItems, leaf(1)), api.ErrLarge},
		{"one list at too many places", doubled(17, leaf(1)), api.ErrLarge},
	})
}

func TestP5CheckOrderOfErrors(t *testing.T) {
	holdCases(t, []checkCase{
		{"wrong and too deep", under(100, api.Tree{}), api.ErrArg},
		{"wrong and far too deep", under(1<<16-1, api.Tree{}), api.ErrArg},
		{"wrong behind what is too deep", fork(api.Plus, under(100, leaf(1)), api.Tree{}), api.ErrArg},
		{"wrong ahead of what is too deep", fork(api.Plus, api.Tree{}, under(100, leaf(1))), api.ErrArg},
		{"wrong behind too many nodes", sized(api.MaxItems+1, fork(9)), api.ErrArg},
		{"wrong behind far too many nodes", sized(3*api.MaxItems, api.Tree{Kind: api.Plus, N: 1}), api.ErrArg},
		{"too many kids, too deep", under(100, fork(api.Plus, leaves(101)...)), api.ErrArg},
	})
}

// What is small in memory may be greater than can be gone through node by node.
func TestP1CheckEndsWhateverIsShared(t *testing.T) {
	ring := []api.Tree{fork(api.Plus), fork(api.Minus), leaf(1)}
	ring[0].Kids, ring[1].Kids = ring, ring[1:]
	wrongRing := slices.Clone(ring)
	wrongRing[0].Kids, wrongRing[1].Kids, wrongRing[2].Kind = wrongRing[:2], wrongRing, 0
	list := []api.Tree{leaf(1), leaf(2), {}}
	holdCases(t, []checkCase{
		{"doubled without end", doubled(2000, leaf(1)), api.ErrLarge},
		{"wrong, and doubled without end", doubled(2000, api.Tree{}), api.ErrArg},
		{"a list within itself", ring[0], api.ErrLarge},
		{"a list within itself, and a wrong one", wrongRing[0], api.ErrArg},
		{"a list, and a longer one of the same beginning", fork(api.Plus, fork(api.Plus, list[:2]...), fork(api.Plus, list...)), api.ErrArg},
		{"a list, and a shorter one of the same beginning", fork(api.Plus, fork(api.Plus, list...), fork(api.Plus, list[:2]...)), api.ErrArg},
		{"the sound beginning of a list", fork(api.Plus, fork(api.Plus, list[:2]...), fork(api.Plus, list[:1]...)), api.OK},
		{"the sound beginning of a list, the other way round", fork(api.Plus, fork(api.Plus, list[:1]...), fork(api.Plus, list[:2]...)), api.OK},
	})
}
