package flow

import (
	"math"

	"lockstep/api"
)

// shape is what a kind asks of its nodes: how many channels they read from and write to, whether they may have a List, which N they may have.
type shape struct {
	ins, outs   int
	hasList     bool
	least, most int64
}

// shapeOf: a kind that is not known has none.
func shapeOf(kind int) (s shape, known bool) {
	switch kind {
	case api.Source:
		return shape{outs: 1, hasList: true}, true
	case api.Map:
		return shape{ins: 1, outs: 1, least: math.MinInt64, most: math.MaxInt64}, true
	case api.Keep:
		return shape{ins: 1, outs: 1, least: 1, most: math.MaxInt64}, true
	case api.Split, api.Both:
		return shape{ins: 1, outs: 2}, true
	case api.Zip, api.Turns:
		return shape{ins: 2, outs: 1}, true
	case api.Delay:
		return shape{ins: 1, outs: 1, hasList: true}, true
	case api.Sink:
		return shape{ins: 1, most: math.MaxInt64}, true
	}
	return shape{}, false
}

// within: is it from 0 to most?
func within(n, most int) bool { return n >= 0 && n <= most }

// allSound: all nodes are looked at, however many they are, because what is wrong is told ahead of what is too much.
func allSound(l []api.Node, channels int) bool {
	for i := range l {
		if !sound(&l[i], channels) {
			return false
		}
	}
	return true
}

// sound: is the node as its kind says, among so many channels?
func sound(n *api.Node, channels int) bool {
	s, known := shapeOf(n.Kind)
	return known &&
		len(n.In) == s.ins && allChannels(n.In, channels) &&
		len(n.Out) == s.outs && allChannels(n.Out, channels) &&
		(s.hasList || len(n.List) == 0) &&
		n.N >= s.least && n.N <= s.most
}

// allChannels: are these among so many channels?
func allChannels(l []int, channels int) bool {
	for _, n := range l {
		if n < 0 || n >= channels {
			return false
		}
	}
	return true
}

// tooLarge: are there too many nodes, or too many numbers of one?
func tooLarge(l []api.Node) bool {
	if len(l) > api.MaxTasks {
		return true
	}
	for i := range l {
		if len(l[i].List) > api.MaxOps {
			return true
		}
	}
	return false
}

// usedTwice: does a channel have two that read from it, or two that write to it? The nodes must be sound.
func usedTwice(l []api.Node) bool {
	var read, written [api.MaxCells]bool
	for i := range l {
		if mark(&read, l[i].In) || mark(&written, l[i].Out) {
			return true
		}
	}
	return false
}

// mark answers whether one of them was marked already: one that stands twice in the list itself is found too.
func mark(marks *[api.MaxCells]bool, l []int) bool {
	for _, n := range l {
		if marks[n] {
			return true
		}
		marks[n] = true
	}
	return false
}
