package shard_test

import (
	"bytes"
	"math"
	"slices"
	"strconv"
	"testing"

	"lockstep/api"
	"lockstep/shard"
)

// meaning: the numbers that come to each key, and then what is made of them, key by key.
func meaning(all [][]api.Effect) []api.Entry {
	numbers, kinds := map[string][]int64{}, map[string]int{}
	for _, e := range slices.Concat(all...) {
		numbers[e.Key], kinds[e.Key] = append(numbers[e.Key], e.N), e.Kind
	}
	var entries []api.Entry
	for key, l := range numbers {
		e := api.Entry{Key: key, Kind: kinds[key]}
		for _, n := range l {
			switch e.Kind {
			case api.EffAdd:
				e.N += n
			case api.EffMax:
				e.N = slices.Max(l)
			case api.EffBits:
				e.N |= n
			}
		}
		entries = append(entries, e)
	}
	slices.SortFunc(entries, func(a, b api.Entry) int { return bytes.Compare([]byte(a.Key), []byte(b.Key)) })
	return entries
}

// counts of shards and workers: each number of one with few and with many of the other.
func counts() (all [][2]int) {
	for n := 1; n <= api.MaxWorkers; n++ {
		all = append(all, [2]int{n, 1}, [2]int{1, n}, [2]int{n, api.MaxWorkers}, [2]int{api.MaxWorkers, n}, [2]int{n, api.MaxWorkers + 1 - n})
	}
	return all
}

// hold: Run answers what is wanted, however many shards and workers there are.
func hold(t *testing.T, what string, all [][]api.Effect, want []api.Entry) {
	t.Helper()
	for _, c := range counts() {
		got, err := shard.Run(all, c[0], c[1])
		if err != api.OK || !slices.Equal(got, want) {
			t.Fatalf("%s: %d shards, %d workers: error %d, %d entries %v, not %v", what, c[0], c[1], err, len(got), got[:min(len(got), 10)], want[:min(len(want), 10)])
		}
	}
}

type runCase struct {
	what string
	all  [][]api.Effect
	want []api.Entry
}

func holdRuns(t *testing.T, cases []runCase) {
	t.Helper()
	for _, c := range cases {
		hold(t, c.what, c.all, c.want)
		if made := meaning(c.all); !slices.Equal(made, c.want) {
			t.Error(c.what, "means", made)
		}
	}
}

func sum(key string, n int64) api.Entry      { return api.Entry{Key: key, Kind: api.EffAdd, N: n} }
func greatest(key string, n int64) api.Entry { return api.Entry{Key: key, Kind: api.EffMax, N: n} }
func union(key string, n int64) api.Entry    { return api.Entry{Key: key, Kind: api.EffBits, N: n} }

func TestP13RunSmall(t *testing.T) {
	holdRuns(t, []runCase{
		{"nothing", nil, nil},
		{"lists without effects", [][]api.Effect{nil, {}, nil}, nil},
		{"one Add", [][]api.Effect{{add("a", 5)}}, []api.Entry{sum("a", 5)}},
		{"one Add of 0", [][]api.Effect{{add("a", 0)}}, []api.Entry{sum("a", 0)}},
		{"Adds", [][]api.Effect{{add("a", 5), add("a", -7)}, {add("a", 1)}}, []api.Entry{sum("a", -1)}},
		{"Adds that come to 0", [][]api.Effect{{add("a", 5)}, {add("a", -5)}}, []api.Entry{sum("a", 0)}},
		{"one Max", [][]api.Effect{{most("a", 5)}}, []api.Entry{greatest("a", 5)}},
		{"Max", [][]api.Effect{{most("a", 5), most("a", 9)}, {most("a", 7)}}, []api.Entry{greatest("a", 9)}},
		{"Max below 0", [][]api.Effect{{most("a", -5), most("a", -9)}, {most("a", -7)}}, []api.Entry{greatest("a", -5)}},
		{"one Bits", [][]api.Effect{{bits("a", 5)}}, []api.Entry{union("a", 5)}},
		{"Bits", [][]api.Effect{{bits("a", 5), bits("a", 1)}, {bits("a", 24)}}, []api.Entry{union("a", 29)}},
		{"Bits, none", [][]api.Effect{{bits("a", 0)}, {bits("a", 0)}}, []api.Entry{union("a", 0)}},
		{"all kinds", [][]api.Effect{{add("a", 2), most("b", -3)}, {most("b", -5), add("a", 5), bits("", 6)}}, []api.Entry{union("", 6), sum("a", 7), greatest("b", -3)}},
		{"like effects are all done", [][]api.Effect{{add("a", 2), add("a", 2)}, {add("a", 2)}, {add("a", 2), add("a", 2)}}, []api.Entry{sum("a", 10)}},
	})
}

func TestP13RunByTheKeysBytes(t *testing.T) {
	holdRuns(t, []runCase{
		{"letters", [][]api.Effect{{add("b", 1), add("a", 2)}, {add("B", 3), add("ab", 4), add("", 5)}}, []api.Entry{sum("", 5), sum("B", 3), sum("a", 2), sum("ab", 4), sum("b", 1)}},
		{"numbers are texts", [][]api.Effect{{most("10", 1), most("9", 2), most("1", 3)}}, []api.Entry{greatest("1", 3), greatest("10", 1), greatest("9", 2)}},
		{"bytes of 128 and more are greater", [][]api.Effect{{bits("\xff", 1), bits("\x7f", 2), bits("\x80", 3), bits("\x00", 4), bits("\u00e9", 5), bits("z", 6)}}, []api.Entry{union("\x00", 4), union("z", 6), union("\x7f", 2), union("\x80", 3), union("\u00e9", 5), union("\xff", 1)}},
		{"a byte 0 at the end is a byte", [][]api.Effect{{add("a\x00", 1), add("a", 2), add("a\x00\x00", 3), add("\x00a", 4)}}, []api.Entry{sum("\x00a", 4), sum("a", 2), sum("a\x00", 1), sum("a\x00\x00", 3)}},
		{"long keys that differ in the last byte", [][]api.Effect{{add(letters(99)+"z", 1)}, {add(letters(99)+"a", 2), add(letters(99), 3)}}, []api.Entry{sum(letters(99), 3), sum(letters(99)+"a", 2), sum(letters(99)+"z", 1)}},
		{"kinds do not matter to the order", [][]api.Effect{{bits("a", 1), add("b", 2), most("c", 3), bits("d", 4), add("e", 5)}}, []api.Entry{union("a", 1), sum("b", 2), greatest("c", 3), union("d", 4), sum("e", 5)}},
	})
}

func TestP13RunNumbersAtTheEdges(t *testing.T) {
	least, full := int64(math.MinInt64), int64(math.MaxInt64)
	holdRuns(t, []runCase{
		{"Add runs over", [][]api.Effect{{add("a", full)}, {add("a", 1)}}, []api.Entry{sum("a", least)}},
		{"Add runs over, below", [][]api.Effect{{add("a", least)}, {add("a", -1)}}, []api.Entry{sum("a", full)}},
		{"Add runs over, and back", [][]api.Effect{{add("a", full), add("a", full)}, {add("a", 2)}}, []api.Entry{sum("a", 0)}},
		{"Max of the least", [][]api.Effect{{most("a", least)}, {most("a", least)}}, []api.Entry{greatest("a", least)}},
		{"Max of both ends", [][]api.Effect{{most("a", least), most("a", full)}, {most("a", 0)}}, []api.Entry{greatest("a", full)}},
		{"Bits with the sign", [][]api.Effect{{bits("a", least)}, {bits("a", 1)}}, []api.Entry{union("a", least+1)}},
		{"all Bits", [][]api.Effect{{bits("a", least)}, {bits("a", full)}}, []api.Entry{union("a", -1)}},
		{"Bits of numbers below 0", [][]api.Effect{{bits("a", -4)}, {bits("a", 1)}}, []api.Entry{union("a", -3)}},
	})
}

// dice gives numbers that are the same in every run of the tests.
type dice uint64

func (d *dice) below(n int) int {
	*d = *d*6364136223846793005 + 1442695040888963407
	return int(uint64(*d) >> 33 % uint64(n))
}

// effect on one of so many keys: which kind it is hangs on the key, lest two are mixed.
func (d *dice) effect(keys int) api.Effect {
	key := d.below(keys)
	n := int64(d.below(1<<30))<<33 ^ int64(d.below(1<<30)) - 1<<29
	return api.Effect{Kind: 1 + key%3, Key: strconv.Itoa(key * 7919), N: n}
}

// throw: so many lists over so many keys.
func (d *dice) throw(lists, effects, keys int) [][]api.Effect {
	all := make([][]api.Effect, lists)
	for i := range all {
		for range d.below(effects + 1) {
			all[i] = append(all[i], d.effect(keys))
		}
	}
	return all
}

func TestP13RunIsTheMeaning(t *testing.T) {
	d := dice(1)
	for range 100 {
		all := d.throw(d.below(12), 12, 1+d.below(30))
		hold(t, "thrown", all, meaning(all))
	}
	for range 5 {
		all := d.throw(api.MaxTasks, 100, 1000)
		hold(t, "thrown, great", all, meaning(all))
	}
}

func TestP13RunInAnyOrder(t *testing.T) {
	d := dice(2)
	for range 20 {
		all := d.throw(8, 8, 10)
		want := meaning(all)
		for range all {
			all = append(all[1:], all[0])
			for _, list := range all {
				slices.Reverse(list)
			}
			hold(t, "turned round", all, want)
		}
		hold(t, "all in one list", [][]api.Effect{slices.Concat(all...)}, want)
	}
}

func TestP13RunAtTheLimits(t *testing.T) {
	each := api.MaxItems / api.MaxTasks
	one := listsOf(api.MaxTasks, each)
	hold(t, "all on one key", one, []api.Entry{sum("k", api.MaxItems)})
	keys := make([][]api.Effect, api.MaxTasks)
	for i := range keys {
		for j := range each {
			key := letters(90) + strconv.Itoa(1000000+j*api.MaxTasks+i)
			keys[i] = append(keys[i], api.Effect{Kind: 1 + j%3, Key: key, N: int64(i - j)})
		}
	}
	want := meaning(keys)
	if len(want) != api.MaxItems {
		t.Fatal("so many keys:", len(want))
	}
	for _, c := range [][2]int{{1, 1}, {1, 16}, {16, 1}, {16, 16}, {5, 7}} {
		got, err := shard.Run(keys, c[0], c[1])
		if err != api.OK || !slices.Equal(got, want) {
			t.Error("each on a key of its own:", c, len(got), err)
		}
	}
}

// The same list at many places is done as often as it stands there.
func TestP13RunOneListOften(t *testing.T) {
	list := []api.Effect{add("a", 1), most("b", 2), add("a", 3)}
	all := slices.Repeat([][]api.Effect{list}, api.MaxTasks)
	hold(t, "one list", all, []api.Entry{sum("a", 4*api.MaxTasks), greatest("b", 2)})
}

func TestP13RunErrArgOfShardsAndWorkers(t *testing.T) {
	all := [][]api.Effect{{add("a", 1)}}
	for _, no := range []int{math.MinInt, -1, 0, api.MaxWorkers + 1, math.MaxInt} {
		for _, c := range [][2]int{{no, 1}, {1, no}, {no, 16}, {16, no}, {no, no}} {
			for _, lists := range [][][]api.Effect{all, nil} {
				if entries, err := shard.Run(lists, c[0], c[1]); err != api.ErrArg || entries != nil {
					t.Error(c, entries, err)
				}
			}
			if _, err := shard.Run(listsOf(api.MaxTasks+1, 1), c[0], c[1]); err != api.ErrLarge {
				t.Error("Check comes first:", c, err)
			}
			if _, err := shard.Run([][]api.Effect{{add("a", 1), most("a", 1)}}, c[0], c[1]); err != api.ErrMix {
				t.Error("Check comes first:", c, err)
			}
		}
	}
}
