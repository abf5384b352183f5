package txn

import (
	"slices"
	"testing"

	"lockstep/api"
)

// counters: so many transactions that each add one to the first place, and write what they found to a place of their own.
func counters(n int) [][]api.TxDeed {
	var l [][]api.TxDeed
	for i := range n {
		l = append(l, []api.TxDeed{{Kind: api.TxGet}, {Kind: api.TxPut, Place: 1 + i}, {Kind: api.TxAdd, N: 1}, {Kind: api.TxPut}})
	}
	return l
}

// Which of them are tried first is said here, and not left to the schedule: the answer is the same.
func TestP16RunWhoeverIsTriedFirst(t *testing.T) {
	for _, order := range [][]int{{0, 1, 2, 3}, {3, 2, 1, 0}, {1, 3, 0, 2}, {2, 0, 3, 1}, {1, 2, 3, 0}} {
		c := newCrew(counters(4), make([]int64, 5))
		for _, i := range order {
			c.do(i)
		}
		if numbers := c.tellPlaces(); !slices.Equal(numbers, []int64{4, 0, 1, 2, 3}) {
			t.Error(order, numbers)
		}
		for i, told := range c.tellTrials() {
			if told != (api.TxTold{Sum: int64(i) + 1, Done: true, Reads: 1, Writes: 2}) {
				t.Error(order, i, told)
			}
		}
	}
}

// One that was tried ahead of its turn writes nothing till those ahead of it have been settled; the worker goes its way.
func TestP16RunWaitsForItsTurn(t *testing.T) {
	c := newCrew(counters(3), make([]int64, 4))
	c.do(2)
	c.do(1)
	if numbers := c.tellPlaces(); !slices.Equal(numbers, make([]int64, 4)) || c.turn.Load() != 0 {
		t.Error("written ahead of their turn:", numbers, c.turn.Load())
	}
	c.do(0)
	if numbers := c.tellPlaces(); !slices.Equal(numbers, []int64{3, 0, 1, 2}) || c.turn.Load() != 3 {
		t.Error("not settled:", numbers, c.turn.Load())
	}
}

// One is tried again if what it saw holds no more, and only then. No answer tells it, so a sum that can't come of trying is laid where it would be tried over.
func TestP16RunTriedAgain(t *testing.T) {
	get := func(place int) api.TxDeed { return api.TxDeed{Kind: api.TxGet, Place: place} }
	put := func(place int) api.TxDeed { return api.TxDeed{Kind: api.TxPut, Place: place} }
	add := api.TxDeed{Kind: api.TxAdd, N: 5}
	at := api.TxDeed{Kind: api.TxAt}
	fail := api.TxDeed{Kind: api.TxNeed, N: 1000}
	cases := []struct {
		what  string
		deeds []api.TxDeed
		again bool
	}{
		{"a TxGet of what was written", []api.TxDeed{get(0)}, true},
		{"a TxAt of what was written", []api.TxDeed{at}, true},
		{"a TxGet, and a TxPut behind it", []api.TxDeed{get(0), put(0), get(0)}, true},
		{"one that was undone", []api.TxDeed{get(0), fail}, true},
		{"one of several", []api.TxDeed{get(2), get(1), get(0), get(2)}, true},
		{"a TxGet of another place", []api.TxDeed{get(2), put(0)}, false},
		{"a TxGet of what it wrote itself", []api.TxDeed{add, put(0), get(0)}, false},
		{"a TxAt of what it wrote itself", []api.TxDeed{put(0), at}, false},
		{"a TxPut alone", []api.TxDeed{put(0)}, false},
		{"what was written as it was", []api.TxDeed{get(1)}, false},
		{"nothing", nil, false},
	}
	const laid = -777
	for _, one := range cases {
		ahead := []api.TxDeed{get(1), put(1), add, put(0)}
		c := newCrew([][]api.TxDeed{ahead, one.deeds}, []int64{30, 1, 2})
		c.do(1)
		c.trials[1].sum = laid
		c.do(0)
		if again := c.trials[1].sum != laid; again != one.again {
			t.Errorf("%s: tried again: %v", one.what, again)
		}
	}
}

// A place that is written between two looks at it has one number for one who is tried.
func TestP16RunReadsFromOutsideOnce(t *testing.T) {
	c := newCrew(counters(1), []int64{7, 0})
	s := &c.trials[0]
	first := s.read(c.places, 0)
	c.places[0].Store(8)
	if second := s.read(c.places, 0); first != 7 || second != 7 || s.holds(c.places) {
		t.Error(first, second, s.holds(c.places))
	}
}
