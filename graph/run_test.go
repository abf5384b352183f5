package graph_test

import (
	"math"
	"slices"
	"testing"

	"lockstep/api"
	"lockstep/graph"
)

// meaning: what comes of one job behind the other: over and over all are gone through, from the last one on, and those of whose After all are known are worked out.
func meaning(l []api.Job) []int64 {
	numbers, known := make([]int64, len(l)), make([]bool, len(l))
	for range l {
		for at := len(l) - 1; at >= 0; at-- {
			if !slices.ContainsFunc(l[at].After, func(ahead int) bool { return !known[ahead] }) {
				numbers[at], known[at] = fold(l[at], numbers), true
			}
		}
	}
	return numbers
}

func fold(j api.Job, numbers []int64) int64 {
	made := j.N
	for _, ahead := range j.After {
		made = made*31 + numbers[ahead]
	}
	return made
}

// hold: Run answers this, however many work.
func hold(t *testing.T, what string, l []api.Job, want []int64) {
	t.Helper()
	for workers := 1; workers <= api.MaxWorkers; workers++ {
		if numbers, err := graph.Run(l, workers); err != api.OK || !slices.Equal(numbers, want) {
			t.Fatalf("%s: %d workers: %v, error %d, not %v", what, workers, numbers, err, want)
		}
	}
}

func TestP20RunSmall(t *testing.T) {
	cases := []struct {
		what string
		l    []api.Job
		want []int64
	}{
		{"nothing", nil, nil},
		{"one", []api.Job{job(7)}, []int64{7}},
		{"the document's example", []api.Job{{Length: 2, N: 1}, {Length: 2, N: 2}, {Length: 1, N: 3, After: []int{0}}}, []int64{1, 2, 31*3 + 1}},
		{"without N", []api.Job{job(5), job(0, 0)}, []int64{5, 5}},
		{"below 0", []api.Job{job(-5), job(-1, 0)}, []int64{-5, -36}},
		{"in the order of After", []api.Job{job(1), job(2), job(0, 0, 1), job(0, 1, 0)}, []int64{1, 2, 33, 63}},
		{"one several times", []api.Job{job(3), job(1, 0, 0, 0)}, []int64{3, ((31+3)*31+3)*31 + 3}},
		{"one several times, with others between", []api.Job{job(3), job(4), job(1, 0, 1, 0)}, []int64{3, 4, ((31+3)*31+4)*31 + 3}},
		{"behind one with a greater number", []api.Job{job(1, 1), job(2, 2), job(3)}, []int64{31 + 65, 65, 3}},
		{"two ways to one", []api.Job{job(1), job(2, 0), job(3, 0), job(4, 1, 2)}, []int64{1, 63, 94, (4*31+63)*31 + 94}},
		{"running over", []api.Job{job(math.MaxInt64), job(math.MinInt64, 0), job(math.MaxInt64, 0)}, []int64{math.MaxInt64, -1, -32}},
		{"Length and Urgent are not to be seen", []api.Job{{Length: 1000, Urgent: -9, N: 1}, {Length: 1, Urgent: 9, N: 2, After: []int{0}}}, []int64{1, 63}},
	}
	for _, c := range cases {
		hold(t, c.what, c.l, c.want)
	}
}

// dice gives numbers that are the same in every run of the tests.
type dice uint64

func (d *dice) below(n int) int {
	*d = *d*6364136223846793005 + 1442695040888963407
	return int(uint64(*d) >> 33 % uint64(n))
}

// order: so many numbers from 0 on, in any order.
func (d *dice) order(n int) []int {
	l := make([]int, n)
	for i := range l {
		at := d.below(i + 1)
		l[i], l[at] = l[at], i
	}
	return l
}

// jobs: so many, each behind at most so many that stand ahead of it in an order that is thrown, of at most that length, and of so many urgencies.
func (d *dice) jobs(n, after, length, urgent int) []api.Job {
	l := make([]api.Job, n)
	order := d.order(n)
	for i, at := range order {
		l[at] = api.Job{Length: 1 + d.below(length), Urgent: d.below(urgent) - urgent/2, N: int64(d.below(1000) - 500)}
		if i > 0 {
			for range d.below(after + 1) {
				l[at].After = append(l[at].After, order[d.below(i)])
			}
		}
	}
	return l
}

func TestP20RunIsWhatTheWordsSay(t *testing.T) {
	d := dice(1)
	links := 0
	for range 500 {
		l := d.jobs(d.below(20), 1+d.below(4), 5, 3)
		for _, j := range l {
			links += len(j.After)
		}
		hold(t, "thrown", l, meaning(l))
	}
	if links < 500*5 {
		t.Error("the dice throw too few that wait:", links)
	}
	for _, after := range []int{0, 1, 2, 5, 50} {
		l := d.jobs(100, after, 5, 3)
		hold(t, "thrown, many", l, meaning(l))
	}
}

func TestP20RunAtTheLimits(t *testing.T) {
	d := dice(2)
	backwards := row(api.MaxTasks)
	for i := range backwards {
		backwards[i] = job(int64(i))
		if i+1 < len(backwards) {
			backwards[i].After = []int{i + 1}
		}
	}
	for what, l := range map[string][]api.Job{
		"none behind another":               loose(api.MaxTasks),
		"one behind the other":              row(api.MaxTasks),
		"one behind the other, backwards":   backwards,
		"each behind all":                   dense(api.MaxTasks),
		"thrown":                            d.jobs(api.MaxTasks, api.MaxTasks, maxLength, 9),
		"as long an After of one as may be": {job(3), job(1, make([]int, api.MaxTasks)...)},
	} {
		hold(t, what, l, meaning(l))
	}
}

// What waits for many that end at one time, over and over, is done once, and behind all of them.
func TestP20RunNothingIsLost(t *testing.T) {
	var l []api.Job
	for i := range api.MaxTasks {
		j := job(int64(i))
		if layer := i / api.MaxWorkers; layer > 0 {
			for k := range api.MaxWorkers {
				j.After = append(j.After, (layer-1)*api.MaxWorkers+k)
			}
		}
		l = append(l, j)
	}
	want := meaning(l)
	for range 50 {
		hold(t, "layers", l, want)
	}
}
