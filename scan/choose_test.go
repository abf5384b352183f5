package scan_test

import (
	"maps"
	"math"
	"math/big"
	"slices"
	"testing"

	"lockstep/api"
	"lockstep/scan"
)

// restOf: from 0 on, of a number without bounds.
func restOf(n, mod int64) int64 {
	return new(big.Int).Mod(big.NewInt(n), big.NewInt(mod)).Int64()
}

// holdPack: Pack answers this, however many work.
func holdPack(t *testing.T, what string, l []int64, mod, rest int64, want []int64) {
	t.Helper()
	for workers := 1; workers <= api.MaxWorkers; workers++ {
		if got, err := scan.Pack(l, mod, rest, workers); !slices.Equal(got, want) || err != api.OK {
			t.Fatalf("%s: Pack by %d, rest %d, by %d workers says %v, error %d, not %v", what, mod, rest, workers, got, err, want)
		}
	}
}

// packed: one item behind the other.
func packed(l []int64, mod, rest int64) []int64 {
	var made []int64
	for _, n := range l {
		if restOf(n, mod) == rest {
			made = append(made, n)
		}
	}
	return made
}

func TestP8PackSmall(t *testing.T) {
	const least, most = math.MinInt64, math.MaxInt64
	l := []int64{1, 2, 3, 4, 5, 6}
	holdPack(t, "the document's example", l, 3, 2, []int64{2, 5})
	holdPack(t, "all", l, 1, 0, l)
	holdPack(t, "none", l, 7, 0, nil)
	holdPack(t, "the first", l, 7, 1, []int64{1})
	holdPack(t, "the last", l, 7, 6, []int64{6})
	holdPack(t, "a rest that is the modulus", l, 3, 3, nil)
	holdPack(t, "a rest below 0", []int64{-1, -4, 2}, 3, -1, nil)
	holdPack(t, "a rest of 0 by 1 alone", l, 1, 1, nil)
	holdPack(t, "those below 0", []int64{-1, -2, -3, -4, 0, 2}, 3, 2, []int64{-1, -4, 2})
	holdPack(t, "multiples below 0", []int64{-3, 3, 0, -6, -1}, 3, 0, []int64{-3, 3, 0, -6})
	holdPack(t, "in order, the same ones too", []int64{8, 5, 2, 5, 8, 1}, 3, 2, []int64{8, 5, 2, 5, 8})
	holdPack(t, "by the greatest", []int64{-1, least, most, most - 1, 0}, most, most-1, []int64{-1, least, most - 1})
	holdPack(t, "the greatest by itself", []int64{-1, least, most, 0}, most, 0, []int64{most, 0})
	holdPack(t, "nothing", nil, 3, 0, nil)
	holdPack(t, "an empty list", []int64{}, 3, 0, nil)
	holdPack(t, "nothing, but room", []int64{3, 6}[:0], 3, 0, nil)
}

func TestP8PackIsTheMeaning(t *testing.T) {
	d := dice(3)
	for length := range 70 {
		l := d.numbers(length)
		mod := int64(1 + d.below(5))
		rest := int64(d.below(int(mod) + 1))
		holdPack(t, "thrown", l, mod, rest, packed(l, mod, rest))
	}
	l := d.numbers(api.MaxItems)
	holdPack(t, "as many as may be", l, 3, 1, packed(l, 3, 1))
	holdPack(t, "all of as many as may be", l, 1, 0, l)
}

// holdSort: Sort answers this, however many work.
func holdSort(t *testing.T, what string, l, want []api.Pair) {
	t.Helper()
	for workers := 1; workers <= api.MaxWorkers; workers++ {
		if got, err := scan.Sort(l, workers); !slices.Equal(got, want) || err != api.OK {
			t.Fatalf("%s: Sort by %d workers says %v, error %d, not %v", what, workers, got, err, want)
		}
	}
}

// ordered: of each key a list of those that have it, as they stood; then these lists, from the least key on.
func ordered(l []api.Pair) []api.Pair {
	lists := map[int64][]api.Pair{}
	for _, p := range l {
		lists[p.Key] = append(lists[p.Key], p)
	}
	keys := slices.Sorted(maps.Keys(lists))
	made := []api.Pair{}
	for _, key := range keys {
		made = append(made, lists[key]...)
	}
	return made
}

func TestP8SortSmall(t *testing.T) {
	const least, most = math.MinInt64, math.MaxInt64
	holdSort(t, "nothing", nil, nil)
	holdSort(t, "an empty list", []api.Pair{}, nil)
	holdSort(t, "nothing, but room", []api.Pair{{Key: 1}}[:0], nil)
	holdSort(t, "one", []api.Pair{{Key: 1, Val: 2}}, []api.Pair{{Key: 1, Val: 2}})
	holdSort(t, "two", []api.Pair{{Key: 2, Val: 1}, {Key: 1, Val: 2}}, []api.Pair{{Key: 1, Val: 2}, {Key: 2, Val: 1}})
	holdSort(t, "one key, values falling", []api.Pair{{Key: 1, Val: 3}, {Key: 1, Val: 2}, {Key: 1, Val: 1}}, []api.Pair{{Key: 1, Val: 3}, {Key: 1, Val: 2}, {Key: 1, Val: 1}})
	holdSort(t, "two keys", []api.Pair{{Key: 2, Val: 9}, {Key: 1, Val: 2}, {Key: 2, Val: 3}, {Key: 1, Val: 1}}, []api.Pair{{Key: 1, Val: 2}, {Key: 1, Val: 1}, {Key: 2, Val: 9}, {Key: 2, Val: 3}})
	holdSort(t, "far apart", []api.Pair{{Key: most}, {Key: least}, {Key: 0}, {Key: -1}, {Key: 1}}, []api.Pair{{Key: least}, {Key: -1}, {Key: 0}, {Key: 1}, {Key: most}})
}

func TestP8SortIsTheMeaning(t *testing.T) {
	d := dice(4)
	throw := func(count, keys int) []api.Pair {
		l := make([]api.Pair, count)
		for i := range l {
			l[i] = api.Pair{Key: int64(d.below(keys) - keys/2), Val: int64(i)}
		}
		return l
	}
	for length := range 70 {
		for _, keys := range []int{1, 2, 5, 1000} {
			l := throw(length, keys)
			holdSort(t, "thrown", l, ordered(l))
		}
	}
	for _, keys := range []int{1, 7, 1000, 1 << 30} {
		l := throw(api.MaxItems, keys)
		want := ordered(l)
		holdSort(t, "as many as may be", l, want)
		holdSort(t, "what is sorted", want, want)
		slices.Reverse(l)
		holdSort(t, "the other way round", l, ordered(l))
	}
}

// holdCount: Count answers this, however many work.
func holdCount(t *testing.T, what string, l []int64, buckets int, want []int) {
	t.Helper()
	for workers := 1; workers <= api.MaxWorkers; workers++ {
		if got, err := scan.Count(l, buckets, workers); !slices.Equal(got, want) || err != api.OK {
			t.Fatalf("%s: Count into %d by %d workers says %v, error %d, not %v", what, buckets, workers, got, err, want)
		}
	}
}

// counted: one item behind the other.
func counted(l []int64, buckets int) []int {
	made := make([]int, buckets)
	for _, n := range l {
		made[restOf(n, int64(buckets))]++
	}
	return made
}

func TestP8CountSmall(t *testing.T) {
	holdCount(t, "nothing", nil, 3, []int{0, 0, 0})
	holdCount(t, "an empty list", []int64{}, 1, []int{0})
	holdCount(t, "nothing, but room", []int64{1}[:0], 2, []int{0, 0})
	holdCount(t, "all into one", []int64{5, -5, 0, math.MinInt64}, 1, []int{4})
	holdCount(t, "those below 0", []int64{-1, -2, -3, -4}, 4, []int{1, 1, 1, 1})
	holdCount(t, "on both sides of 0", []int64{-1, 0, 1, 2, 3}, 3, []int{2, 1, 2})
	holdCount(t, "the ends", []int64{math.MinInt64, math.MaxInt64}, 10, []int{0, 0, 1, 0, 0, 0, 0, 1, 0, 0})
	holdCount(t, "as many buckets as may be", []int64{-1, 999, 1000}, 1000, counted([]int64{-1, 999, 1000}, 1000))
}

func TestP8CountIsTheMeaning(t *testing.T) {
	d := dice(5)
	for length := range 70 {
		l := d.numbers(length)
		buckets := 1 + d.below(9)
		holdCount(t, "thrown", l, buckets, counted(l, buckets))
	}
	l := d.numbers(api.MaxItems)
	for _, buckets := range []int{1, 7, 1000} {
		holdCount(t, "as many as may be", l, buckets, counted(l, buckets))
	}
	holdCount(t, "one bucket of many", make([]int64, api.MaxItems), 3, []int{api.MaxItems, 0, 0})
}

// holdNoChoice: the calls say the errors, with nothing beside them.
func holdNoChoice(t *testing.T, items int, mod int64, buckets, workers int, pack, sort, count api.Errno) {
	t.Helper()
	l, pairs := make([]int64, items), make([]api.Pair, items)
	if got, err := scan.Pack(l, mod, 0, workers); err != pack || err != api.OK && got != nil {
		t.Errorf("Pack of %d items by %d, %d workers: %d of them, error %d, not %d", items, mod, workers, len(got), err, pack)
	}
	if got, err := scan.Sort(pairs, workers); err != sort || err != api.OK && got != nil {
		t.Errorf("Sort of %d items, %d workers: %d of them, error %d, not %d", items, workers, len(got), err, sort)
	}
	if got, err := scan.Count(l, buckets, workers); err != count || err != api.OK && got != nil {
		t.Errorf("Count of %d items, %d buckets, %d workers: %d of them, error %d, not %d", items, buckets, workers, len(got), err, count)
	}
}

func TestP8Errors(t *testing.T) {
	const ok, arg, large = api.OK, api.ErrArg, api.ErrLarge
	for _, workers := range wrongWorkers() {
		for _, items := range []int{0, 3, api.MaxItems + 1} {
			holdNoChoice(t, items, 1, 1, workers, arg, arg, arg)
			holdNoChoice(t, items, 0, 0, workers, arg, arg, arg)
		}
	}
	for _, workers := range []int{1, api.MaxWorkers} {
		holdNoChoice(t, api.MaxItems, 1, 1, workers, ok, ok, ok)
		holdNoChoice(t, api.MaxItems+1, 1, 1, workers, large, large, large)
		holdNoChoice(t, 3, math.MaxInt64, 1000, workers, ok, ok, ok)
		for _, wrong := range []int{math.MinInt, -1, 0} {
			holdNoChoice(t, 0, int64(wrong), wrong, workers, arg, ok, arg)
			holdNoChoice(t, 3, int64(wrong), wrong, workers, arg, ok, arg)
			holdNoChoice(t, api.MaxItems+1, int64(wrong), wrong, workers, arg, large, arg)
		}
		for _, buckets := range []int{1001, math.MaxInt} {
			holdNoChoice(t, 0, 1, buckets, workers, ok, ok, arg)
			holdNoChoice(t, 3, 1001, buckets, workers, ok, ok, arg)
			holdNoChoice(t, api.MaxItems+1, 1001, buckets, workers, large, large, arg)
		}
	}
}
