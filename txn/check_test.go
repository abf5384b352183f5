package txn_test

import (
	"math"
	"slices"
	"testing"

	"lockstep/api"
	"lockstep/txn"
)

func add(n int64) api.TxDeed   { return api.TxDeed{Kind: api.TxAdd, N: n} }
func get(place int) api.TxDeed { return api.TxDeed{Kind: api.TxGet, Place: place} }
func put(place int) api.TxDeed { return api.TxDeed{Kind: api.TxPut, Place: place} }
func at() api.TxDeed           { return api.TxDeed{Kind: api.TxAt} }
func need(n int64) api.TxDeed  { return api.TxDeed{Kind: api.TxNeed, N: n} }
func none() api.TxDeed         { return api.TxDeed{Kind: api.TxClear} }

// listsOf: so many transactions, each of so many deeds.
func listsOf(transactions, deeds int) [][]api.TxDeed {
	l := make([][]api.TxDeed, transactions)
	for i := range l {
		for range deeds {
			l[i] = append(l[i], add(1))
		}
	}
	return l
}

type checkCase struct {
	what   string
	l      [][]api.TxDeed
	places int
	want   api.Errno
}

// holdCases: Check says what is wanted, and Run says the same error with nothing beside it, whether its workers are right or wrong.
func holdCases(t *testing.T, cases []checkCase) {
	t.Helper()
	for _, c := range cases {
		if got := txn.Check(c.l, c.places); got != c.want {
			t.Errorf("%s: Check says %d, not %d", c.what, got, c.want)
		}
		if c.places < 0 || c.places > 2*api.MaxCells {
			continue // no list is as long as that
		}
		for _, workers := range []int{1, api.MaxWorkers, 0} {
			told, numbers, got := txn.Run(c.l, make([]int64, c.places), workers)
			want := c.want
			if want == api.OK && workers == 0 {
				want = api.ErrArg
			}
			if got != want {
				t.Errorf("%s: Run with %d workers says %d, not %d", c.what, workers, got, want)
			}
			if got != api.OK && (told != nil || numbers != nil) {
				t.Errorf("%s: answers beside the error %d: %v %v", c.what, got, told, numbers)
			}
		}
	}
}

func TestP15CheckTakesWhatIsSound(t *testing.T) {
	holdCases(t, []checkCase{
		{"nothing but a place", nil, 1, api.OK},
		{"no transactions", [][]api.TxDeed{}, 1, api.OK},
		{"transactions without deeds", [][]api.TxDeed{nil, {}}, 1, api.OK},
		{"all kinds", [][]api.TxDeed{{add(1), get(0), put(0), at(), need(1), none()}}, 1, api.OK},
		{"any N of TxAdd and TxNeed", [][]api.TxDeed{{add(math.MinInt64), add(math.MaxInt64), add(0), need(math.MinInt64), need(0), need(math.MaxInt64)}}, 1, api.OK},
		{"the first place and the last", [][]api.TxDeed{{get(0), put(0), get(2), put(2)}}, 3, api.OK},
		{"as many places as may be", [][]api.TxDeed{{get(api.MaxCells - 1), put(api.MaxCells - 1)}}, api.MaxCells, api.OK},
		{"as many transactions as may be", listsOf(api.MaxTasks, 1), 1, api.OK},
		{"as many deeds as may be", listsOf(2, api.MaxOps), 1, api.OK},
	})
}

func TestP15CheckErrArgOfPlaces(t *testing.T) {
	var cases []checkCase
	for _, places := range []int{math.MinInt, -1, 0, api.MaxCells + 1, 2 * api.MaxCells, math.MaxInt} {
		cases = append(cases,
			checkCase{"so many places can't be", [][]api.TxDeed{{add(1)}}, places, api.ErrArg},
			checkCase{"so many places can't be, without transactions", nil, places, api.ErrArg},
			checkCase{"so many places can't be, of which one is used", [][]api.TxDeed{{get(0)}}, places, api.ErrArg},
		)
	}
	holdCases(t, cases)
}

func TestP15CheckErrArgOfDeeds(t *testing.T) {
	var cases []checkCase
	wrong := func(what string, d api.TxDeed) {
		cases = append(cases,
			checkCase{what, [][]api.TxDeed{{d}}, 2, api.ErrArg},
			checkCase{what + ", the last one", [][]api.TxDeed{{get(0)}, {add(1), put(1), d}}, 2, api.ErrArg},
			checkCase{what + ", of the first transaction", [][]api.TxDeed{{d, get(0)}, {add(1)}}, 2, api.ErrArg},
			checkCase{what + ", behind the end", [][]api.TxDeed{{need(1), d}}, 2, api.ErrArg},
		)
	}
	for _, no := range []int{0, 7, -1, math.MinInt, math.MaxInt} {
		wrong("a deed that is none", api.TxDeed{Kind: no})
	}
	for _, kind := range []int{api.TxGet, api.TxPut} {
		for _, no := range []int{-1, 2, api.MaxCells, math.MinInt, math.MaxInt} {
			wrong("a place that is none", api.TxDeed{Kind: kind, Place: no})
		}
	}
	for _, kind := range []int{api.TxAdd, api.TxAt, api.TxNeed, api.TxClear} {
		for _, no := range []int{-1, 1, 2, math.MinInt, math.MaxInt} {
			wrong("a place where nothing is said of it", api.TxDeed{Kind: kind, Place: no})
		}
	}
	for _, kind := range []int{api.TxGet, api.TxPut, api.TxAt, api.TxClear} {
		for _, no := range []int64{-1, 1, math.MinInt64, math.MaxInt64} {
			wrong("an N where nothing is said of it", api.TxDeed{Kind: kind, N: no})
		}
	}
	holdCases(t, cases)
}

func TestP15CheckErrLarge(t *testing.T) {
	holdCases(t, []checkCase{
		{"too many transactions", listsOf(api.MaxTasks+1, 1), 1, api.ErrLarge},
		{"too many transactions without deeds", listsOf(api.MaxTasks+1, 0), 1, api.ErrLarge},
		{"too many deeds", listsOf(1, api.MaxOps+1), 1, api.ErrLarge},
		{"too many deeds of the last one", slices.Concat(listsOf(3, 1), listsOf(1, api.MaxOps+1)), 1, api.ErrLarge},
		{"too many deeds of the first one", slices.Concat(listsOf(1, api.MaxOps+1), listsOf(3, 1)), 1, api.ErrLarge},
		{"too many deeds, most of them behind the end", [][]api.TxDeed{append([]api.TxDeed{need(1)}, listsOf(1, api.MaxOps)[0]...)}, 1, api.ErrLarge},
	})
}

func TestP15CheckOrderOfErrors(t *testing.T) {
	many, manyDeeds := listsOf(api.MaxTasks+1, 1), listsOf(1, api.MaxOps+1)
	wrong := [][]api.TxDeed{{{Kind: 9}}}
	holdCases(t, []checkCase{
		{"wrong deed behind too many transactions", slices.Concat(many, wrong), 1, api.ErrArg},
		{"wrong deed behind too many deeds", slices.Concat(manyDeeds, wrong), 1, api.ErrArg},
		{"wrong deed ahead of too many deeds", slices.Concat(wrong, manyDeeds), 1, api.ErrArg},
		{"wrong deed as one too many", [][]api.TxDeed{append(listsOf(1, api.MaxOps)[0], wrong[0]...)}, 1, api.ErrArg},
		{"wrong place as one too many", [][]api.TxDeed{append(listsOf(1, api.MaxOps)[0], get(1))}, 1, api.ErrArg},
		{"no places and too many transactions", many, 0, api.ErrArg},
		{"no places and too many deeds", manyDeeds, 0, api.ErrArg},
		{"too many places and too many transactions", many, api.MaxCells + 1, api.ErrArg},
		{"too many places and too many deeds", manyDeeds, api.MaxCells + 1, api.ErrArg},
	})
}
