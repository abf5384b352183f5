package txn_test

import (
	"math"
	"math/big"
	"slices"
	"testing"

	"lockstep/api"
	"lockstep/txn"
)

// placeOf: the place that a sum says; its rest is taken by numbers that don't run over.
func placeOf(sum int64, places int) int {
	return int(new(big.Int).Mod(big.NewInt(sum), big.NewInt(int64(places))).Int64())
}

// alone: one transaction is done over the places themselves; if it is undone they become again what they were.
func alone(deeds []api.TxDeed, numbers []int64) api.TxTold {
	was := slices.Clone(numbers)
	var read, wrote []int
	sum := int64(0)
	count := func(places []int) int { return len(slices.Compact(slices.Sorted(slices.Values(places)))) }
	for _, d := range deeds {
		switch d.Kind {
		case api.TxAdd:
			sum += d.N
		case api.TxClear:
			sum = 0
		case api.TxGet:
			sum += numbers[d.Place]
			read = append(read, d.Place)
		case api.TxPut:
			numbers[d.Place] = sum
			wrote = append(wrote, d.Place)
		case api.TxAt:
			place := placeOf(sum, len(numbers))
			sum = numbers[place]
			read = append(read, place)
		case api.TxNeed:
			if sum < d.N {
				copy(numbers, was)
				return api.TxTold{Sum: sum, Reads: count(read)}
			}
		}
	}
	return api.TxTold{Sum: sum, Done: true, Reads: count(read), Writes: count(wrote)}
}

// meaning: what comes of doing them one behind the other.
func meaning(l [][]api.TxDeed, start []int64) ([]api.TxTold, []int64) {
	numbers := slices.Clone(start)
	var told []api.TxTold
	for _, deeds := range l {
		told = append(told, alone(deeds, numbers))
	}
	return told, numbers
}

// hold: Run answers this, however many work.
func hold(t *testing.T, what string, l [][]api.TxDeed, start []int64, wantTold []api.TxTold, wantNumbers []int64) {
	t.Helper()
	for workers := 1; workers <= api.MaxWorkers; workers++ {
		told, numbers, err := txn.Run(l, start, workers)
		if err != api.OK {
			t.Fatalf("%s: %d workers: error %d", what, workers, err)
		}
		if !slices.Equal(told, wantTold) {
			t.Fatalf("%s: %d workers: transactions %v, not %v", what, workers, told, wantTold)
		}
		if !slices.Equal(numbers, wantNumbers) {
			t.Fatalf("%s: %d workers: places %v, not %v", what, workers, numbers, wantNumbers)
		}
	}
}

func holdMeaning(t *testing.T, what string, l [][]api.TxDeed, start []int64) ([]api.TxTold, []int64) {
	t.Helper()
	told, numbers := meaning(l, start)
	hold(t, what, l, start, told, numbers)
	return told, numbers
}

func done(sum int64, reads, writes int) api.TxTold {
	return api.TxTold{Sum: sum, Done: true, Reads: reads, Writes: writes}
}

func undone(sum int64, reads int) api.TxTold { return api.TxTold{Sum: sum, Reads: reads} }

type runCase struct {
	what    string
	l       [][]api.TxDeed
	start   []int64
	told    []api.TxTold
	numbers []int64
}

func holdRuns(t *testing.T, cases []runCase) {
	t.Helper()
	for _, c := range cases {
		hold(t, c.what, c.l, c.start, c.told, c.numbers)
		if told, numbers := meaning(c.l, c.start); !slices.Equal(told, c.told) || !slices.Equal(numbers, c.numbers) {
			t.Errorf("%s: the meaning is said otherwise: %v, %v", c.what, told, numbers)
		}
	}
}

func TestP16RunSmall(t *testing.T) {
	holdRuns(t, []runCase{
		{"the document's example", [][]api.TxDeed{{add(5), put(0)}, {get(0), need(9), put(1)}}, []int64{0, 0}, []api.TxTold{done(5, 0, 1), undone(5, 1)}, []int64{5, 0}},
		{"the same, the other way round", [][]api.TxDeed{{get(0), need(9), put(1)}, {add(5), put(0)}}, []int64{0, 0}, []api.TxTold{undone(0, 1), done(5, 0, 1)}, []int64{5, 0}},
		{"places alone", nil, []int64{3, -4}, nil, []int64{3, -4}},
		{"transactions without deeds", [][]api.TxDeed{nil, {}}, []int64{7}, []api.TxTold{done(0, 0, 0), done(0, 0, 0)}, []int64{7}},
		{"one place, one deed", [][]api.TxDeed{{put(0)}}, []int64{7}, []api.TxTold{done(0, 0, 1)}, []int64{0}},
		{"each has a sum of its own", [][]api.TxDeed{{add(4)}, {add(3), put(0)}, {put(1)}}, []int64{9, 9}, []api.TxTold{done(4, 0, 0), done(3, 0, 1), done(0, 0, 1)}, []int64{3, 0}},
	})
}

func TestP15RunDeeds(t *testing.T) {
	start := []int64{10, 20, 30}
	one := func(what string, deeds []api.TxDeed, told api.TxTold, numbers ...int64) runCase {
		return runCase{what, [][]api.TxDeed{deeds}, start, []api.TxTold{told}, numbers}
	}
	holdRuns(t, []runCase{
		one("TxAdd adds", []api.TxDeed{add(2), add(-5)}, done(-3, 0, 0), 10, 20, 30),
		one("TxClear forgets", []api.TxDeed{add(2), none(), add(1), put(0), none()}, done(0, 0, 1), 1, 20, 30),
		one("TxGet adds to the sum", []api.TxDeed{add(2), get(1), get(2)}, done(52, 2, 0), 10, 20, 30),
		one("TxPut leaves the sum", []api.TxDeed{add(2), put(1), add(1), put(2)}, done(3, 0, 2), 10, 2, 3),
		one("TxAt makes the sum anew", []api.TxDeed{add(1), at()}, done(20, 1, 0), 10, 20, 30),
		one("TxAt of what TxAt found", []api.TxDeed{add(2), at(), at()}, done(10, 2, 0), 10, 20, 30),
		one("TxAt of 0", []api.TxDeed{at()}, done(10, 1, 0), 10, 20, 30),
		one("TxAt goes round", []api.TxDeed{add(5), at()}, done(30, 1, 0), 10, 20, 30),
		one("TxAt of as many as there are", []api.TxDeed{add(3), at()}, done(10, 1, 0), 10, 20, 30),
		one("TxAt below 0", []api.TxDeed{add(-1), at()}, done(30, 1, 0), 10, 20, 30),
		one("TxAt below 0, by no rest", []api.TxDeed{add(-3), at()}, done(10, 1, 0), 10, 20, 30),
		one("TxAt far below 0", []api.TxDeed{add(math.MinInt64), at()}, done(20, 1, 0), 10, 20, 30),
		one("TxAt far beyond", []api.TxDeed{add(math.MaxInt64), at()}, done(20, 1, 0), 10, 20, 30),
		one("what it wrote itself is what it reads", []api.TxDeed{add(7), put(1), none(), get(1), put(2), at(), get(2)}, done(14, 2, 2), 10, 7, 7),
		one("what it wrote last", []api.TxDeed{add(7), put(0), add(1), put(0), none(), get(0)}, done(8, 1, 1), 8, 20, 30),
		one("from one place to another", []api.TxDeed{get(0), put(1), none(), get(1), get(1), put(0)}, done(20, 2, 2), 20, 10, 30),
	})
}

func TestP15RunNeed(t *testing.T) {
	start := []int64{10, 20, 30}
	one := func(what string, deeds []api.TxDeed, told api.TxTold, numbers ...int64) runCase {
		return runCase{what, [][]api.TxDeed{deeds}, start, []api.TxTold{told}, numbers}
	}
	holdRuns(t, []runCase{
		one("as much is enough", []api.TxDeed{add(5), need(5), put(0)}, done(5, 0, 1), 5, 20, 30),
		one("more is enough", []api.TxDeed{add(6), need(5), put(0)}, done(6, 0, 1), 6, 20, 30),
		one("one less is not", []api.TxDeed{add(4), put(0), need(5)}, undone(4, 0), 10, 20, 30),
		one("nothing behind it is done", []api.TxDeed{add(4), need(5), add(7), put(1), get(2), need(0)}, undone(4, 0), 10, 20, 30),
		one("all that was written is undone", []api.TxDeed{add(1), put(0), put(1), add(1), put(0), put(2), need(3), put(1)}, undone(2, 0), 10, 20, 30),
		one("what was read stays read", []api.TxDeed{get(1), get(2), put(2), get(2), at(), need(math.MaxInt64)}, undone(20, 2), 10, 20, 30),
		one("also what it wrote itself ahead", []api.TxDeed{add(3), put(0), get(0), need(7)}, undone(6, 1), 10, 20, 30),
		one("several, of which the last fails", []api.TxDeed{need(0), add(1), need(1), put(0), need(0), need(2)}, undone(1, 0), 10, 20, 30),
		one("below 0", []api.TxDeed{add(-2), put(0), need(-2), need(-3), need(math.MinInt64)}, done(-2, 0, 1), -2, 20, 30),
		one("below what is below 0", []api.TxDeed{add(-3), put(0), need(-2)}, undone(-3, 0), 10, 20, 30),
		one("the least sum", []api.TxDeed{add(math.MinInt64), need(math.MinInt64), put(0), need(math.MaxInt64)}, undone(math.MinInt64, 0), 10, 20, 30),
		one("the first deed", []api.TxDeed{need(1)}, undone(0, 0), 10, 20, 30),
	})
}

func TestP15RunSumsRunOver(t *testing.T) {
	const least, most = math.MinInt64, math.MaxInt64
	holdRuns(t, []runCase{
		{"by TxAdd, above", [][]api.TxDeed{{add(most), add(1), put(0)}}, []int64{0}, []api.TxTold{done(least, 0, 1)}, []int64{least}},
		{"by TxAdd, below", [][]api.TxDeed{{add(least), add(-1), put(0)}}, []int64{0}, []api.TxTold{done(most, 0, 1)}, []int64{most}},
		{"by TxGet", [][]api.TxDeed{{get(0), get(0), put(0)}}, []int64{most}, []api.TxTold{done(-2, 1, 1)}, []int64{-2}},
		{"by TxGet, to 0", [][]api.TxDeed{{get(0), get(0), put(0)}}, []int64{least}, []api.TxTold{done(0, 1, 1)}, []int64{0}},
		{"and is below what is needed", [][]api.TxDeed{{add(most), need(most), add(1), need(0)}}, []int64{0}, []api.TxTold{undone(least, 0)}, []int64{0}},
	})
}

// Each place counts once, however it was come to.
func TestP16RunCountsPlacesOnce(t *testing.T) {
	start := []int64{1, 2, 0, 0}
	one := func(what string, deeds []api.TxDeed, told api.TxTold, numbers ...int64) runCase {
		return runCase{what, [][]api.TxDeed{deeds}, start, []api.TxTold{told}, numbers}
	}
	holdRuns(t, []runCase{
		one("read twice", []api.TxDeed{get(1), get(1), get(1)}, done(6, 1, 0), 1, 2, 0, 0),
		one("by TxGet and by TxAt", []api.TxDeed{get(0), none(), at(), at(), get(1)}, done(4, 2, 0), 1, 2, 0, 0),
		one("read, written, and read", []api.TxDeed{get(0), put(0), get(0)}, done(2, 1, 1), 1, 2, 0, 0),
		one("written, and read twice", []api.TxDeed{add(5), put(2), get(2), get(2)}, done(15, 1, 1), 1, 2, 5, 0),
		one("written, and read by TxAt", []api.TxDeed{add(6), put(2), at()}, done(6, 1, 1), 1, 2, 6, 0),
		one("written twice", []api.TxDeed{put(3), add(1), put(3), put(3)}, done(1, 0, 1), 1, 2, 0, 1),
		one("written as it was", []api.TxDeed{get(1), put(1), none(), put(2), put(3)}, done(0, 1, 3), 1, 2, 0, 0),
		one("written, and never read", []api.TxDeed{put(0), put(1)}, done(0, 0, 2), 0, 0, 0, 0),
		one("all of them", []api.TxDeed{get(3), get(2), get(1), get(0), put(0), put(1), put(2), put(3)}, done(3, 4, 4), 3, 3, 3, 3),
	})
}

func TestP16RunInTheirOrder(t *testing.T) {
	holdRuns(t, []runCase{
		{"the last one that wrote", [][]api.TxDeed{{add(1), put(0)}, {add(2), put(0)}, {add(3), put(0)}}, []int64{9}, []api.TxTold{done(1, 0, 1), done(2, 0, 1), done(3, 0, 1)}, []int64{3}},
		{"read by those behind, not by those ahead", [][]api.TxDeed{{get(0)}, {add(5), put(0)}, {get(0)}}, []int64{1}, []api.TxTold{done(1, 1, 0), done(5, 0, 1), done(5, 1, 0)}, []int64{5}},
		{"of one that was undone nothing is read", [][]api.TxDeed{{add(5), put(0), need(6)}, {get(0), put(1)}}, []int64{1, 0}, []api.TxTold{undone(5, 0), done(1, 1, 1)}, []int64{1, 1}},
		{"nor is it written over what was there", [][]api.TxDeed{{add(4), put(0)}, {add(5), put(0), need(6)}, {get(0)}}, []int64{1}, []api.TxTold{done(4, 0, 1), undone(5, 0), done(4, 1, 0)}, []int64{4}},
		{"one ahead makes it be done", [][]api.TxDeed{{add(9), put(0)}, {get(0), need(9), put(1)}}, []int64{0, 0}, []api.TxTold{done(9, 0, 1), done(9, 1, 1)}, []int64{9, 9}},
		{"one ahead makes it be undone", [][]api.TxDeed{{add(8), put(0)}, {get(0), need(9), get(1), put(1)}}, []int64{9, 7}, []api.TxTold{done(8, 0, 1), undone(8, 1)}, []int64{8, 7}},
		{"one ahead says which place", [][]api.TxDeed{{add(2), put(0)}, {get(0), at(), put(1)}}, []int64{1, 5, 6}, []api.TxTold{done(2, 0, 1), done(6, 2, 1)}, []int64{2, 6, 6}},
		{"one ahead lets it read fewer", [][]api.TxDeed{{put(0)}, {at(), at(), at()}}, []int64{1, 2, 7}, []api.TxTold{done(0, 0, 1), done(0, 1, 0)}, []int64{0, 2, 7}},
		{"taken from one, given to another", [][]api.TxDeed{
			{add(-6), get(0), need(0), put(0), none(), add(6), get(1), put(1)},
			{add(-6), get(0), need(0), put(0), none(), add(6), get(1), put(1)},
			{add(-9), get(1), need(0), put(1), none(), add(9), get(0), put(0)},
		}, []int64{10, 5}, []api.TxTold{done(11, 2, 2), undone(-2, 1), done(13, 2, 2)}, []int64{13, 2}},
	})
}

// Each hangs on the one ahead of it: whoever was tried too early must be tried again.
func TestP16RunAllHangOnOneAnother(t *testing.T) {
	var steps, chain, turns, hops [][]api.TxDeed
	for i := range api.MaxTasks {
		steps = append(steps, []api.TxDeed{get(0), add(1), put(0)})
		from, to := i%api.MaxCells, (i+1)%api.MaxCells
		chain = append(chain, []api.TxDeed{get(from), get(from), add(int64(i)), put(to)})
		// only who finds the number of those that were done ahead of it is done itself
		turns = append(turns, []api.TxDeed{get(0), add(1), put(0), need(int64(i) + 1), add(5), put(1)})
		// the number of the next place stands in the place that the first one says
		hops = append(hops, []api.TxDeed{get(0), at(), add(1), put(0), at(), add(3), put(i % 7)})
	}
	_, numbers := holdMeaning(t, "one added by each", steps, []int64{3})
	if numbers[0] != 3+api.MaxTasks {
		t.Error("not one of each:", numbers)
	}
	holdMeaning(t, "from each to the next", chain, make([]int64, api.MaxCells))
	told, _ := holdMeaning(t, "each needs all ahead", turns, []int64{0, 0})
	if !told[api.MaxTasks-1].Done {
		t.Error("the last one is undone:", told[api.MaxTasks-1])
	}
	holdMeaning(t, "hops", hops, []int64{1, 2, 3, 4, 5, 6, 0, 9, 8})
}

// What was read together holds together: numbers go from place to place, so that their sum is always the same; whoever reads all of them finds it.
func TestP16RunNothingTorn(t *testing.T) {
	const places, each = 10, 1000
	start := slices.Repeat([]int64{each}, places)
	var all []api.TxDeed
	for i := range places {
		all = append(all, get(i))
	}
	var l [][]api.TxDeed
	for i := range api.MaxTasks {
		if i%2 == 1 {
			l = append(l, append(slices.Clone(all), need(places*each)))
			continue
		}
		from, to, n := i%places, (i/2*3+1)%places, int64(i%7)
		l = append(l, []api.TxDeed{get(from), add(-n), put(from), none(), get(to), add(n), put(to)})
	}
	told, numbers := holdMeaning(t, "taken and given", l, start)
	sum := int64(0)
	for _, n := range numbers {
		sum += n
	}
	if sum != places*each {
		t.Error("something was lost:", numbers)
	}
	for i := 1; i < len(told); i += 2 {
		if told[i] != done(places*each, places, 0) {
			t.Error("one found another sum:", i, told[i])
		}
	}
}

// dice gives numbers that are the same in every run of the tests.
type dice uint64

func (d *dice) below(n int) int {
	*d = *d*6364136223846793005 + 1442695040888963407
	return int(uint64(*d) >> 33 % uint64(n))
}

// numbers: of so many places, small ones and great ones.
func (d *dice) numbers(places int) []int64 {
	l := make([]int64, places)
	for i := range l {
		switch d.below(8) {
		case 0:
			l[i] = math.MinInt64 + int64(d.below(5))
		case 1:
			l[i] = math.MaxInt64 - int64(d.below(5))
		default:
			l[i] = int64(d.below(21) - 10)
		}
	}
	return l
}

// deed: any, over so many places; a TxNeed is one that often holds.
func (d *dice) deed(places int) api.TxDeed {
	switch d.below(10) {
	case 0, 1:
		return add(int64(d.below(21) - 10))
	case 2, 3:
		return get(d.below(places))
	case 4, 5, 6:
		return put(d.below(places))
	case 7:
		return at()
	case 8:
		return need(int64(d.below(30) - 15))
	}
	return none()
}

// throw: so many transactions over so many places.
func (d *dice) throw(places, transactions, deeds int) [][]api.TxDeed {
	l := make([][]api.TxDeed, transactions)
	for i := range l {
		for range d.below(deeds + 1) {
			l[i] = append(l[i], d.deed(places))
		}
	}
	return l
}

func TestP16RunIsTheMeaning(t *testing.T) {
	d := dice(1)
	whole, taken := 0, 0
	for range 400 {
		start := d.numbers(1 + d.below(6))
		told, _ := holdMeaning(t, "thrown", d.throw(len(start), d.below(12), 10), start)
		for _, one := range told {
			if one.Done {
				whole++
			} else {
				taken++
			}
		}
	}
	if whole < 300 || taken < 300 {
		t.Error("the dice throw too few of one kind:", whole, taken)
	}
	for range 20 {
		start := d.numbers(api.MaxCells)
		holdMeaning(t, "thrown, great", d.throw(api.MaxCells, api.MaxTasks, 40), start)
	}
	for range 20 {
		start := d.numbers(3)
		holdMeaning(t, "thrown, over few places", d.throw(3, api.MaxTasks, 40), start)
	}
}

func TestP16RunAtTheLimits(t *testing.T) {
	d := dice(2)
	for _, places := range []int{1, 2, api.MaxCells} {
		l := make([][]api.TxDeed, api.MaxTasks)
		for i := range l {
			for len(l[i]) < api.MaxOps {
				if one := d.deed(places); one.Kind != api.TxNeed {
					l[i] = append(l[i], one)
				}
			}
		}
		holdMeaning(t, "as great as may be", l, d.numbers(places))
		for i := range l {
			l[i][api.MaxOps-1] = need(0)
		}
		told, _ := holdMeaning(t, "as great as may be, some undone by their last deed", l, d.numbers(places))
		if !slices.ContainsFunc(told, func(one api.TxTold) bool { return !one.Done }) {
			t.Error("none is undone")
		}
	}
	all := make([]api.TxDeed, 0, api.MaxOps)
	for i := range api.MaxOps / 2 {
		all = append(all, get(i%api.MaxCells), put((i+1)%api.MaxCells))
	}
	l := slices.Repeat([][]api.TxDeed{all}, api.MaxTasks)
	told, _ := holdMeaning(t, "all read and write all", l, d.numbers(api.MaxCells))
	if told[0].Reads != api.MaxCells || told[0].Writes != api.MaxCells {
		t.Error("not all:", told[0])
	}
}

func TestP16RunErrArgOfWorkers(t *testing.T) {
	l := [][]api.TxDeed{{add(1), put(0)}}
	for _, workers := range []int{math.MinInt, -1, 0, api.MaxWorkers + 1, math.MaxInt} {
		for _, given := range [][][]api.TxDeed{l, nil} {
			if told, numbers, err := txn.Run(given, []int64{1}, workers); err != api.ErrArg || told != nil || numbers != nil {
				t.Error(workers, told, numbers, err)
			}
		}
		if _, _, err := txn.Run(listsOf(api.MaxTasks+1, 1), []int64{1}, workers); err != api.ErrLarge {
			t.Error("Check comes first:", err)
		}
	}
}

func TestP16RunErrArgOfStart(t *testing.T) {
	l := [][]api.TxDeed{{add(1)}}
	for _, start := range [][]int64{nil, {}, make([]int64, api.MaxCells+1)} {
		for workers := 1; workers <= api.MaxWorkers; workers++ {
			if told, numbers, err := txn.Run(l, start, workers); err != api.ErrArg || told != nil || numbers != nil {
				t.Error(len(start), told, numbers, err)
			}
		}
	}
}
