package flow

import (
	"slices"
	"testing"

	"lockstep/api"
)

// readOf: how many numbers were read from each channel. No answer tells it, so it is asked within.
func readOf(l []api.Node, channels, limit, workers int) []int {
	c := newCrew(l, channels, limit)
	c.workOff(workers)
	var read []int
	for i := range c.pipes {
		read = append(read, c.pipes[i].read)
	}
	return read
}

func TestP11RunNodesStopForEver(t *testing.T) {
	source := api.Node{Kind: api.Source, Out: []int{0}, List: []int64{1, 2, 3, 4}}
	sink := func(n int64) api.Node { return api.Node{Kind: api.Sink, In: []int{0}, N: n} }
	delay := func(list ...int64) api.Node {
		return api.Node{Kind: api.Delay, In: []int{0}, Out: []int{1}, List: list}
	}
	cases := []struct {
		what  string
		node  api.Node
		limit int
		read  []int
	}{
		{"a Sink at its end", sink(2), 9, []int{2, 0}},
		{"a Sink of none", sink(0), 9, []int{0, 0}},
		{"a Sink that is not at its end", sink(9), 9, []int{4, 0}},
		{"the first number that is read finds no room", delay(5, 6, 7, 8), 4, []int{1, 0}},
		{"the second one finds no room", delay(5, 6, 7), 4, []int{2, 0}},
		{"one of the List finds no room", delay(5, 6, 7, 8, 9), 4, []int{0, 0}},
		{"all find room", delay(5), 5, []int{4, 0}},
	}
	for _, c := range cases {
		for workers := 1; workers <= api.MaxWorkers; workers++ {
			if read := readOf([]api.Node{c.node, source}, 2, c.limit, workers); !slices.Equal(read, c.read) {
				t.Errorf("%s: %d workers: read %v, not %v", c.what, workers, read, c.read)
			}
		}
	}
}
