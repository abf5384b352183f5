package shard_test

import (
	"math"
	"slices"
	"strings"
	"testing"

	"lockstep/api"
	"lockstep/shard"
)

func add(key string, n int64) api.Effect  { return api.Effect{Kind: api.EffAdd, Key: key, N: n} }
func most(key string, n int64) api.Effect { return api.Effect{Kind: api.EffMax, Key: key, N: n} }
func bits(key string, n int64) api.Effect { return api.Effect{Kind: api.EffBits, Key: key, N: n} }

// letters: a text of so many bytes.
func letters(count int) string { return strings.Repeat("k", count) }

// listsOf: so many lists of so many effects each.
func listsOf(lists, effects int) [][]api.Effect {
	l := make([][]api.Effect, lists)
	for i := range l {
		l[i] = slices.Repeat([]api.Effect{add("k", 1)}, effects)
	}
	return l
}

type checkCase struct {
	what string
	all  [][]api.Effect
	want api.Errno
}

// holdCases: Check says what is wanted, and Run says the same error with no list beside it, whether its shards and workers are right or wrong.
func holdCases(t *testing.T, cases []checkCase) {
	t.Helper()
	for _, c := range cases {
		if got := shard.Check(c.all); got != c.want {
			t.Errorf("%s: Check says %d, not %d", c.what, got, c.want)
		}
		for _, counts := range [][2]int{{1, 1}, {api.MaxWorkers, api.MaxWorkers}, {0, 1}, {1, 0}, {0, 0}} {
			want := c.want
			if want == api.OK && (counts[0] == 0 || counts[1] == 0) {
				want = api.ErrArg
			}
			entries, got := shard.Run(c.all, counts[0], counts[1])
			if got != want {
				t.Errorf("%s: Run with %d shards and %d workers says %d, not %d", c.what, counts[0], counts[1], got, want)
			}
			if got != api.OK && entries != nil {
				t.Errorf("%s: a list beside the error %d", c.what, got)
			}
		}
	}
}

func TestP13CheckTakesWhatIsSound(t *testing.T) {
	holdCases(t, []checkCase{
		{"nothing at all", nil, api.OK},
		{"nothing at all, in a list", [][]api.Effect{}, api.OK},
		{"lists without effects", [][]api.Effect{nil, {}}, api.OK},
		{"all kinds", [][]api.Effect{{add("a", 1), most("b", 1)}, {bits("c", 1)}}, api.OK},
		{"any number", [][]api.Effect{{add("a", math.MinInt64), most("b", math.MinInt64), bits("c", -1), add("a", math.MaxInt64)}}, api.OK},
		{"the empty key", [][]api.Effect{{most("", 1)}}, api.OK},
		{"the longest key", [][]api.Effect{{add(letters(100), 1)}}, api.OK},
		{"the longest key, of letters of two bytes", [][]api.Effect{{bits(strings.Repeat("\u00e9", 50), 1)}}, api.OK},
		{"keys of any bytes", [][]api.Effect{{add("\x00", 1), most("\xff\xfe", 1), bits("\x00\x00", 1)}}, api.OK},
		{"one key often, of one kind", [][]api.Effect{{add("a", 1), add("a", 1)}, {add("a", 2)}}, api.OK},
		{"as many lists as may be", listsOf(api.MaxTasks, 1), api.OK},
		{"as many effects as may be", listsOf(1, api.MaxItems), api.OK},
		{"as many lists and effects as may be", listsOf(api.MaxTasks, api.MaxItems/api.MaxTasks), api.OK},
	})
}

func TestP13CheckErrArg(t *testing.T) {
	var cases []checkCase
	wrong := func(what string, e api.Effect) {
		cases = append(cases,
			checkCase{what, [][]api.Effect{{e}}, api.ErrArg},
			checkCase{what + ", the last one", [][]api.Effect{{add("a", 1)}, {most("b", 1), bits("c", 1), e}}, api.ErrArg},
			checkCase{what + ", of the first list", [][]api.Effect{{e, add("a", 1)}, {most("b", 1)}}, api.ErrArg},
		)
	}
	for _, no := range []int{0, 4, -1, math.MinInt, math.MaxInt} {
		wrong("an effect that is none", api.Effect{Kind: no, Key: "a"})
	}
	for _, kind := range []int{api.EffAdd, api.EffMax, api.EffBits} {
		wrong("a key that is too long", api.Effect{Kind: kind, Key: letters(101)})
		wrong("a key that is far too long", api.Effect{Kind: kind, Key: letters(100000)})
		wrong("a key of few letters and too many bytes", api.Effect{Kind: kind, Key: strings.Repeat("\u20ac", 34)})
	}
	holdCases(t, cases)
}

func TestP13CheckErrLarge(t *testing.T) {
	holdCases(t, []checkCase{
		{"too many lists", listsOf(api.MaxTasks+1, 1), api.ErrLarge},
		{"too many lists without effects", listsOf(api.MaxTasks+1, 0), api.ErrLarge},
		{"too many effects of one list", listsOf(1, api.MaxItems+1), api.ErrLarge},
		{"too many effects in all", slices.Concat(listsOf(2, api.MaxItems/2), listsOf(1, 1)), api.ErrLarge},
		{"too many effects in all, the first list the least", slices.Concat(listsOf(1, 1), listsOf(2, api.MaxItems/2)), api.ErrLarge},
		{"far too many effects", listsOf(30, api.MaxItems), api.ErrLarge},
	})
}

func TestP13CheckErrMix(t *testing.T) {
	var cases []checkCase
	kinds := []func(key string, n int64) api.Effect{add, most, bits}
	for i, first := range kinds {
		for j, second := range kinds {
			if i == j {
				continue
			}
			cases = append(cases,
				checkCase{"in one list", [][]api.Effect{{first("a", 1), second("a", 1)}}, api.ErrMix},
				checkCase{"in two lists", [][]api.Effect{{first("a", 1)}, nil, {second("a", 1)}}, api.ErrMix},
				checkCase{"others between", [][]api.Effect{{first("a", 1), add("b", 1)}, {most("c", 1), second("a", 1)}}, api.ErrMix},
				checkCase{"the empty key", [][]api.Effect{{first("", 1)}, {second("", 1)}}, api.ErrMix},
				checkCase{"the longest key", [][]api.Effect{{first(letters(100), 1)}, {second(letters(100), 1)}}, api.ErrMix},
				checkCase{"N of 0", [][]api.Effect{{first("a", 0)}, {second("a", 0)}}, api.ErrMix},
				checkCase{"other keys", [][]api.Effect{{first("a", 1), second("A", 1)}, {second("aa", 1), first("", 1)}}, api.OK},
			)
		}
	}
	full := listsOf(api.MaxTasks, api.MaxItems/api.MaxTasks)
	full[api.MaxTasks-1][len(full[0])-1] = most("k", 1)
	holdCases(t, append(cases, checkCase{"the last of as many as may be", full, api.ErrMix}))
}

func TestP13CheckOrderOfErrors(t *testing.T) {
	manyLists, manyEffects := listsOf(api.MaxTasks+1, 1), listsOf(1, api.MaxItems+1)
	wrong, mixed := [][]api.Effect{{{Kind: 4}}}, [][]api.Effect{{most("k", 1)}}
	holdCases(t, []checkCase{
		{"wrong effect behind too many lists", slices.Concat(manyLists, wrong), api.ErrArg},
		{"wrong effect behind too many effects", slices.Concat(manyEffects, wrong), api.ErrArg},
		{"wrong effect ahead of too many effects", slices.Concat(wrong, manyEffects), api.ErrArg},
		{"wrong effect behind mixed ones", [][]api.Effect{{add("a", 1), most("a", 1), {Kind: 4}}}, api.ErrArg},
		{"long keys, mixed", [][]api.Effect{{add(letters(101), 1), most(letters(101), 1)}}, api.ErrArg},
		{"mixed ones ahead of too many effects", slices.Concat(mixed, manyEffects), api.ErrLarge},
		{"mixed ones behind too many effects", slices.Concat(manyEffects, mixed), api.ErrLarge},
		{"mixed ones ahead of too many lists", slices.Concat(mixed, manyLists), api.ErrLarge},
		{"all of them", slices.Concat(mixed, manyLists, manyEffects, wrong), api.ErrArg},
	})
}
