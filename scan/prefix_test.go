package scan_test

import (
	"math"
	"math/big"
	"slices"
	"testing"

	"lockstep/api"
	"lockstep/scan"
)

// steps: the number with these halves.
func steps(high, low int64) int64 { return high<<32 + low }

// joined: what the document says of two numbers.
func joined(op int, first, second int64) int64 {
	switch op {
	case api.OpSum:
		return first + second
	case api.OpMax:
		if second > first {
			return second
		}
		return first
	case api.OpLast:
		if second == 0 {
			return first
		}
		return second
	}
	return joinedSteps(first, second)
}

// joinedSteps goes by numbers without bounds, whose Div and Mod round down where the divisor is above 0.
func joinedSteps(first, second int64) int64 {
	half, mod := big.NewInt(1<<32), big.NewInt(1<<31-1)
	h1, l1 := new(big.Int).DivMod(big.NewInt(first), half, new(big.Int))
	h2, l2 := new(big.Int).DivMod(big.NewInt(second), half, new(big.Int))
	high := new(big.Int).Mul(h1, h2)
	low := new(big.Int).Add(new(big.Int).Mul(l1, h2), l2)
	return steps(high.Mod(high, mod).Int64(), low.Mod(low, mod).Int64())
}

// meaning: the prefixes, one item behind the other.
func meaning(op int, l []int64) []int64 {
	made := slices.Clone(l)
	for i := 1; i < len(l); i++ {
		made[i] = joined(op, made[i-1], l[i])
	}
	return made
}

// none: what comes of nothing.
func none(op int) int64 {
	switch op {
	case api.OpMax:
		return math.MinInt64
	case api.OpSteps:
		return 1 << 32
	}
	return 0
}

// hold: Scan answers this, and Reduce its last one, however many work.
func hold(t *testing.T, what string, op int, l, want []int64) {
	t.Helper()
	last := none(op)
	if len(want) > 0 {
		last = want[len(want)-1]
	}
	for workers := 1; workers <= api.MaxWorkers; workers++ {
		if got, err := scan.Scan(l, op, workers); !slices.Equal(got, want) || err != api.OK {
			t.Fatalf("%s, operator %d: Scan by %d workers says %v, error %d, not %v", what, op, workers, got, err, want)
		}
		if got, err := scan.Reduce(l, op, workers); got != last || err != api.OK {
			t.Fatalf("%s, operator %d: Reduce by %d workers says %d, error %d, not %d", what, op, workers, got, err, last)
		}
	}
}

func operators() []int { return []int{api.OpSum, api.OpMax, api.OpLast, api.OpSteps} }

func TestP7Small(t *testing.T) {
	const least, most = math.MinInt64, math.MaxInt64
	cases := []struct {
		what    string
		op      int
		l, want []int64
	}{
		{"a sum", api.OpSum, []int64{1, 2, -5, 4}, []int64{1, 3, -2, 2}},
		{"a sum that runs over", api.OpSum, []int64{most, 1, least}, []int64{most, least, 0}},
		{"a sum that runs over below", api.OpSum, []int64{least, -1, -1}, []int64{least, most, most - 1}},
		{"the greatest", api.OpMax, []int64{3, 1, 4, 1, 5, 2}, []int64{3, 3, 4, 4, 5, 5}},
		{"the greatest of those below 0", api.OpMax, []int64{-3, -5, -1, least}, []int64{-3, -3, -1, -1}},
		{"the greatest of the ends", api.OpMax, []int64{least, least, most, 0}, []int64{least, least, most, most}},
		{"the document's example", api.OpLast, []int64{1, 0, 5, 0}, []int64{1, 1, 5, 5}},
		{"the last behind nothing", api.OpLast, []int64{0, 0, -2, 0, 0, 7, 0}, []int64{0, 0, -2, -2, -2, 7, 7}},
		{"the last, always one", api.OpLast, []int64{9, 8, -9, 1}, []int64{9, 8, -9, 1}},
		{"the last of nothings", api.OpLast, []int64{0, 0, 0}, []int64{0, 0, 0}},
		{"steps", api.OpSteps, []int64{steps(2, 1), steps(3, 2), steps(5, 7)}, []int64{steps(2, 1), steps(6, 5), steps(30, 32)}},
		{"steps the other way round", api.OpSteps, []int64{steps(3, 2), steps(2, 1)}, []int64{steps(3, 2), steps(6, 5)}},
		{"steps that are not the same both ways", api.OpSteps, []int64{steps(0, 4), steps(5, 1)}, []int64{steps(0, 4), steps(0, 21)}},
	}
	for _, c := range cases {
		hold(t, c.what, c.op, c.l, c.want)
	}
}

func TestP7OfNothing(t *testing.T) {
	for _, op := range operators() {
		hold(t, "nil", op, nil, nil)
		hold(t, "empty", op, []int64{}, nil)
		hold(t, "empty, with room", op, []int64{1, 2, 3}[:0], nil)
	}
}

// An item alone is not taken by 2^31 - 1, nor joined to what is answered of nothing.
func TestP7OfOneItem(t *testing.T) {
	for _, n := range []int64{0, 1, -1, 1 << 32, -1 << 32, steps(1, 1<<32-1), steps(1<<31-1, 1<<31-1), math.MinInt64, math.MaxInt64} {
		for _, op := range operators() {
			hold(t, "one", op, []int64{n}, []int64{n})
		}
	}
}

func TestP7StepsAtTheirEdges(t *testing.T) {
	const mod = 1<<31 - 1
	one := int64(1 << 32)
	cases := []struct {
		what           string
		a, b, combined int64
	}{
		{"halves that are the modulus", steps(mod, mod), one, 0},
		{"behind one that changes nothing", one, steps(mod, mod), 0},
		{"the greatest halves that stay", steps(mod-1, mod-1), one, steps(mod-1, mod-1)},
		{"the greatest low halves", steps(1, 1<<32-1), one, steps(1, 1)},
		{"a high half below 0", steps(-1, 0), one, steps(mod-1, 0)},
		{"a high half below 0 behind", one, steps(-1, 0), steps(mod-1, 0)},
		{"the high half rounds down", -1, one, steps(mod-1, 1)},
		{"both below 0", -1, -1, steps(1, 0)},
		{"times below 0", steps(1, 5), steps(-2, 3), steps(mod-2, mod-7)},
		{"the least", math.MinInt64, one, steps(mod-1, 0)},
		{"the greatest", math.MaxInt64, math.MaxInt64, steps(0, 1)},
		{"nothing is left of the first", steps(7, 8), 9, 9},
	}
	for _, c := range cases {
		if said := joinedSteps(c.a, c.b); said != c.combined {
			t.Errorf("%s: the test itself says %d and %d", c.what, said, c.combined)
		}
		hold(t, c.what, api.OpSteps, []int64{c.a, c.b}, []int64{c.a, c.combined})
	}
}

// dice gives numbers that are the same in every run of the tests.
type dice uint64

func (d *dice) below(n int) int {
	*d = *d*6364136223846793005 + 1442695040888963407
	return int(uint64(*d) >> 33 % uint64(n))
}

// number of some size, also near the edges.
func (d *dice) number() int64 {
	great := int64(d.below(1<<30))<<34 ^ int64(d.below(1<<30))<<10 ^ int64(d.below(1<<10))
	switch d.below(8) {
	case 0:
		return 0
	case 1:
		return math.MinInt64 + int64(d.below(3))
	case 2:
		return math.MaxInt64 - int64(d.below(3))
	case 3, 4:
		return int64(d.below(20)) - 10
	case 5:
		return -great
	}
	return great
}

// numbers: so many of them.
func (d *dice) numbers(count int) []int64 {
	l := make([]int64, count)
	for i := range l {
		l[i] = d.number()
	}
	return l
}

func TestP7IsTheMeaning(t *testing.T) {
	d := dice(1)
	for length := range 70 {
		l := d.numbers(length)
		for _, op := range operators() {
			hold(t, "thrown", op, l, meaning(op, l))
		}
	}
	for range 20 {
		l := d.numbers(100 + d.below(2000))
		for _, op := range operators() {
			hold(t, "thrown, long", op, l, meaning(op, l))
		}
	}
}

func TestP7AtTheLimit(t *testing.T) {
	d := dice(2)
	l := d.numbers(api.MaxItems)
	for _, op := range operators() {
		hold(t, "as many as may be", op, l, meaning(op, l))
	}
}

// holdNoScan: both calls say the error, with nothing beside it.
func holdNoScan(t *testing.T, items, op, workers int, want api.Errno) {
	t.Helper()
	l := make([]int64, items)
	for i := range l {
		l[i] = 1
	}
	if got, err := scan.Scan(l, op, workers); got != nil || err != want {
		t.Errorf("Scan of %d items, operator %d, %d workers: %d of them, error %d, not %d", items, op, workers, len(got), err, want)
	}
	if got, err := scan.Reduce(l, op, workers); got != 0 || err != want {
		t.Errorf("Reduce of %d items, operator %d, %d workers: %d, error %d, not %d", items, op, workers, got, err, want)
	}
}

// wrongWorkers: numbers that no call takes.
func wrongWorkers() []int { return []int{math.MinInt, -1, 0, api.MaxWorkers + 1, math.MaxInt} }

func TestP7Errors(t *testing.T) {
	for _, op := range operators() {
		for _, workers := range wrongWorkers() {
			holdNoScan(t, 0, op, workers, api.ErrArg)
			holdNoScan(t, 3, op, workers, api.ErrArg)
			holdNoScan(t, api.MaxItems+1, op, workers, api.ErrArg)
		}
		holdNoScan(t, api.MaxItems+1, op, 1, api.ErrLarge)
		holdNoScan(t, 2*api.MaxItems, op, api.MaxWorkers, api.ErrLarge)
	}
	for _, op := range []int{math.MinInt, -1, 0, 5, math.MaxInt} {
		holdNoScan(t, 0, op, 1, api.ErrArg)
		holdNoScan(t, 3, op, api.MaxWorkers, api.ErrArg)
		holdNoScan(t, 3, op, 0, api.ErrArg)
		holdNoScan(t, api.MaxItems+1, op, 1, api.ErrArg)
	}
}
