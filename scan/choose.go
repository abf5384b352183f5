package scan

import "sync/atomic"

// pack counts ahead of writing: so each part knows where in the answer its own begin, and no two write at one place.
func pack(l []int64, wanted func(n int64) bool, workers int) []int64 {
	parts := cut(len(l), workers)
	counts := make([]int, len(parts))
	sideBySide(len(parts), func(k int) {
		counts[k] = countWanted(l[parts[k].from:parts[k].to], wanted)
	})
	starts, total := startsOf(counts)
	made := make([]int64, total)
	sideBySide(len(parts), func(k int) {
		at := starts[k]
		for _, n := range l[parts[k].from:parts[k].to] {
			if wanted(n) {
				made[at] = n
				at++
			}
		}
	})
	return made
}

func countWanted(l []int64, wanted func(n int64) bool) int {
	found := 0
	for _, n := range l {
		if wanted(n) {
			found++
		}
	}
	return found
}

// startsOf: for each count the sum of those ahead of it, and the sum of all.
func startsOf(counts []int) (starts []int, total int) {
	starts = make([]int, len(counts))
	for k := range counts {
		starts[k] = total
		total += counts[k]
	}
	return starts, total
}

// count: each part counts on its own and adds what it has at its end, so that the shared counts are seldom fought for.
func count(l []int64, buckets, workers int) []int {
	shared := make([]atomic.Int64, buckets)
	parts := cut(len(l), workers)
	sideBySide(len(parts), func(k int) {
		own := make([]int64, buckets)
		for _, n := range l[parts[k].from:parts[k].to] {
			own[restBy(n, int64(buckets))]++
		}
		for bucket := range own {
			shared[bucket].Add(own[bucket])
		}
	})
	made := make([]int, buckets)
	for bucket := range made {
		made[bucket] = int(shared[bucket].Load())
	}
	return made
}
