package graph

import "lockstep/api"

// waits: of each job how many of its After are not over, and which jobs wait for it, each as often as it stands in the other's After.
type waits struct {
	left   []int
	behind [][]int
}

// newWaits of jobs that are sound.
func newWaits(l []api.Job) *waits {
	w := &waits{left: make([]int, len(l)), behind: behind(l)}
	for at, j := range l {
		w.left[at] = len(j.After)
	}
	return w
}

// behind: of each job those that wait for it.
func behind(l []api.Job) [][]int {
	all := make([][]int, len(l))
	for at, j := range l {
		for _, ahead := range j.After {
			all[ahead] = append(all[ahead], at)
		}
	}
	return all
}

// free: the jobs that wait for none.
func free(l []api.Job) []int {
	var at []int
	for i, j := range l {
		if len(j.After) == 0 {
			at = append(at, i)
		}
	}
	return at
}

// over: a job has ended. It answers those that waited for it alone.
func (w *waits) over(job int) []int {
	var now []int
	for _, at := range w.behind[job] {
		w.left[at]--
		if w.left[at] == 0 {
			now = append(now, at)
		}
	}
	return now
}

// inOrder: the jobs, each behind its After. Those that would have to be ahead of themselves are left out, and so are those that wait for them.
func inOrder(l []api.Job) []int {
	w := newWaits(l)
	order := free(l)
	for i := 0; i < len(order); i++ {
		order = append(order, w.over(order[i])...)
	}
	return order
}

// longest: the greatest sum of Lengths of jobs that are one behind the other. No job may be ahead of itself.
func longest(l []api.Job) int {
	most := 0
	ends := make([]int, len(l))
	for _, at := range inOrder(l) {
		for _, ahead := range l[at].After {
			ends[at] = max(ends[at], ends[ahead])
		}
		ends[at] += l[at].Length
		most = max(most, ends[at])
	}
	return most
}
