package scan

import (
	"cmp"
	"slices"

	"lockstep/api"
)

// sortByKey sorts the parts, then merges each with the one behind it, round by round, till there is one. The two lists are room for one another.
func sortByKey(l []api.Pair, workers int) []api.Pair {
	made, room := make([]api.Pair, len(l)), make([]api.Pair, len(l))
	copy(made, l)
	parts := cut(len(l), workers)
	sideBySide(len(parts), func(k int) {
		slices.SortStableFunc(made[parts[k].from:parts[k].to], func(a, b api.Pair) int {
			return cmp.Compare(a.Key, b.Key)
		})
	})
	for len(parts) > 1 {
		parts = mergeAll(made, room, parts)
		made, room = room, made
	}
	return made
}

// mergeAll answers the parts that stand in to. A part with none behind it is merged with nothing.
func mergeAll(from, to []api.Pair, parts []part) []part {
	merged := make([]part, (len(parts)+1)/2)
	sideBySide(len(merged), func(k int) {
		left := parts[2*k]
		right := part{from: left.to, to: left.to}
		if 2*k+1 < len(parts) {
			right = parts[2*k+1]
		}
		merge(from[left.from:left.to], from[right.from:right.to], to[left.from:right.to])
		merged[k] = part{from: left.from, to: right.to}
	})
	return merged
}

// merge takes from the left where the keys are the same: those stood ahead.
func merge(left, right, to []api.Pair) {
	for at := range to {
		if len(right) == 0 || len(left) > 0 && left[0].Key <= right[0].Key {
			to[at], left = left[0], left[1:]
		} else {
			to[at], right = right[0], right[1:]
		}
	}
}
