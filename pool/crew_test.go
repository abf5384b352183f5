package pool

import (
	"testing"

	"lockstep/api"
)

// three: a tree with three leaves below it.
func three() api.Tree {
	leaf := func(n int64) api.Tree { return api.Tree{Kind: api.Leaf, N: n} }
	return api.Tree{Kind: api.Chain, Kids: []api.Tree{leaf(1), {Kind: api.Plus, Kids: []api.Tree{leaf(2), leaf(3)}}}}
}

// All work is laid down at the first worker, who never comes: another one takes it.
func TestP5RunTakesWorkFromOthers(t *testing.T) {
	for me := range api.MaxWorkers {
		c := newCrew(levels(three()), api.MaxWorkers)
		c.queue(0, 0)
		c.work(me)
		if want := int64(31*(31*7+1) + 5); c.numbers[0] != want {
			t.Error(me, c.numbers[0], want)
		}
	}
}

func TestP5RunTakesOwnWorkFirst(t *testing.T) {
	c := newCrew(levels(three()), 3)
	c.queue(1, 1)
	c.queue(1, 2)
	c.queue(1, 3)
	c.queue(2, 4)
	if at := c.find(2); at != 4 {
		t.Error("not its own:", at)
	}
	if at := c.find(2); at != 1 {
		t.Error("of another's not the one that was laid down first:", at)
	}
	if at := c.find(1); at != 3 {
		t.Error("of its own not the one that was laid down last:", at)
	}
	if at := c.find(0); at != 2 {
		t.Error("not the one that is left:", at)
	}
}

// A worker goes down the left side itself, and lays all else where others may take it.
func TestP5RunForksForOthers(t *testing.T) {
	c := newCrew(levels(three()), 2)
	if at := c.fork(1, 0); c.nodes[at].tree.N != 1 {
		t.Error("not the first Leaf:", at)
	}
	if at := c.find(0); c.nodes[at].tree.Kind != api.Plus || len(c.queued) != 1 {
		t.Error("not the second kid:", at, len(c.queued))
	}
}
