package shard

import (
	"slices"
	"strings"

	"lockstep/api"
)

// doAll does the effects of all lists. In which order they come to a key is not to be seen: those of one kind may change places.
func doAll(all [][]api.Effect, shards, workers int) book[api.Entry] {
	b := newBook[api.Entry](shards)
	sideBySide(all, workers, func(list []api.Effect) {
		for _, e := range list {
			b.change(e.Key, ruleOf(e))
		}
	})
	return b
}

// ruleOf an effect: the first one on a key is what the key has, for a greatest one can't be found from 0 on.
func ruleOf(e api.Effect) func(had api.Entry, there bool) api.Entry {
	return func(had api.Entry, there bool) api.Entry {
		if !there {
			return api.Entry{Key: e.Key, Kind: e.Kind, N: e.N}
		}
		had.N = joined(e.Kind, had.N, e.N)
		return had
	}
}

// joined: what comes of two numbers under effects of this kind.
func joined(kind int, a, b int64) int64 {
	switch kind {
	case api.EffMax:
		return max(a, b)
	case api.EffBits:
		return a | b
	}
	return a + b
}

// tell sorts the entries, which stand in the maps in no order.
func tell(b book[api.Entry]) []api.Entry {
	entries := make([]api.Entry, 0, b.keys())
	for i := range b {
		for _, e := range b[i].held {
			e.Key = strings.Clone(e.Key)
			entries = append(entries, e)
		}
	}
	slices.SortFunc(entries, func(a, b api.Entry) int { return strings.Compare(a.Key, b.Key) })
	return entries
}
