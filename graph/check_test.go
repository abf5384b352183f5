package graph_test

import (
	"math"
	"slices"
	"testing"

	"lockstep/api"
	"lockstep/graph"
)

const maxLength = 1000

// job of Length 1 behind others.
func job(n int64, after ...int) api.Job { return api.Job{Length: 1, N: n, After: after} }

// loose: so many jobs that wait for none.
func loose(jobs int) []api.Job { return slices.Repeat([]api.Job{job(1)}, jobs) }

// row: so many jobs, one behind the other.
func row(jobs int) []api.Job {
	l := loose(jobs)
	for i := 1; i < jobs; i++ {
		l[i].After = []int{i - 1}
	}
	return l
}

// ring: so many jobs, one behind the other, and the first one behind the last.
func ring(jobs int) []api.Job {
	l := row(jobs)
	l[0].After = []int{jobs - 1}
	return l
}

// dense: so many jobs, each behind all that stand ahead of it.
func dense(jobs int) []api.Job {
	l := loose(jobs)
	for i := range l {
		for ahead := range i {
			l[i].After = append(l[i].After, ahead)
		}
	}
	return l
}

type checkCase struct {
	what string
	l    []api.Job
	want api.Errno
}

// holdCases: Check says what is wanted, and so do the other calls, with nothing beside an error, and also if the workers are wrong.
func holdCases(t *testing.T, cases []checkCase) {
	t.Helper()
	for _, c := range cases {
		if got := graph.Check(c.l); got != c.want {
			t.Errorf("%s: Check says %d, not %d", c.what, got, c.want)
		}
		work, span, got := graph.Span(c.l)
		if got != c.want || got != api.OK && (work != 0 || span != 0) {
			t.Errorf("%s: Span says %d %d, error %d, not %d", c.what, work, span, got, c.want)
		}
		for _, workers := range []int{math.MinInt, -1, 0, 1, api.MaxWorkers, api.MaxWorkers + 1, math.MaxInt} {
			want := c.want
			if want == api.OK && (workers < 1 || workers > api.MaxWorkers) {
				want = api.ErrArg
			}
			holdWorkers(t, c.what, c.l, workers, want)
		}
	}
}

// holdWorkers: Run and Plan say this error, and nothing beside it.
func holdWorkers(t *testing.T, what string, l []api.Job, workers int, want api.Errno) {
	t.Helper()
	numbers, err := graph.Run(l, workers)
	if err != want || err != api.OK && numbers != nil || err == api.OK && len(numbers) != len(l) {
		t.Errorf("%s: Run with %d workers says %v, error %d, not %d", what, workers, numbers, err, want)
	}
	slots, end, err := graph.Plan(l, workers)
	if err != want || err != api.OK && (slots != nil || end != 0) || err == api.OK && len(slots) != len(l) {
		t.Errorf("%s: Plan with %d workers says %v %d, error %d, not %d", what, workers, slots, end, err, want)
	}
}

func TestP20CheckTakesWhatIsSound(t *testing.T) {
	all := slices.Concat(loose(api.MaxTasks-1), []api.Job{job(1)})
	for i := range api.MaxTasks - 1 {
		all[api.MaxTasks-1].After = append(all[api.MaxTasks-1].After, i)
	}
	all[api.MaxTasks-1].After = append(all[api.MaxTasks-1].After, 0)
	holdCases(t, []checkCase{
		{"nothing", nil, api.OK},
		{"nothing in a list", []api.Job{}, api.OK},
		{"the least job", []api.Job{{Length: 1}}, api.OK},
		{"the edges of jobs", []api.Job{
			{Length: 1, Urgent: math.MinInt, N: math.MinInt64},
			{Length: maxLength, Urgent: math.MaxInt, N: math.MaxInt64, After: []int{}},
		}, api.OK},
		{"the first and the last one in After", []api.Job{job(1), job(2, 0, 2), job(3)}, api.OK},
		{"one several times in After", []api.Job{job(1), job(2, 0, 0, 0)}, api.OK},
		{"behind one with a greater number", []api.Job{job(1, 2), job(2, 0), job(3)}, api.OK},
		{"two ways to one", []api.Job{job(1), job(2, 0), job(3, 0), job(4, 1, 2)}, api.OK},
		{"as many jobs as may be", loose(api.MaxTasks), api.OK},
		{"as many, one behind the other", row(api.MaxTasks), api.OK},
		{"as many, each behind all", dense(api.MaxTasks), api.OK},
		{"as long an After as may be, of one job", []api.Job{job(1), job(2, make([]int, api.MaxTasks)...)}, api.OK},
		{"as long an After as may be, of all jobs", all, api.OK},
	})
}

func TestP20CheckErrArg(t *testing.T) {
	var cases []checkCase
	wrong := func(what string, j api.Job) {
		cases = append(cases,
			checkCase{what, []api.Job{j}, api.ErrArg},
			checkCase{what + ", the first one", []api.Job{j, job(1), job(2, 1)}, api.ErrArg},
			checkCase{what + ", the last one", []api.Job{job(1), job(2, 0), j}, api.ErrArg},
		)
	}
	for _, no := range []int{0, -1, maxLength + 1, math.MinInt, math.MaxInt} {
		wrong("a Length that is none", api.Job{Length: no, Urgent: 1, N: 1})
	}
	for _, no := range []int{-1, 3, api.MaxTasks, math.MinInt, math.MaxInt} {
		wrong("an After that is no job", job(1, no))
		cases = append(cases,
			checkCase{"an After that is no job, behind one that is", []api.Job{job(1), job(1), job(1, 0, no)}, api.ErrArg},
			checkCase{"an After that is no job, ahead of one that is", []api.Job{job(1), job(1), job(1, no, 0)}, api.ErrArg},
		)
	}
	cases = append(cases, checkCase{"an After of one too many", []api.Job{job(1, 1)}, api.ErrArg})
	holdCases(t, cases)
}

func TestP20CheckErrLarge(t *testing.T) {
	long := make([]int, api.MaxTasks+1)
	holdCases(t, []checkCase{
		{"too many jobs", loose(api.MaxTasks + 1), api.ErrLarge},
		{"too many, one behind the other", row(api.MaxTasks + 1), api.ErrLarge},
		{"too many by far", loose(api.MaxItems), api.ErrLarge},
		{"too long an After", []api.Job{job(1), job(2, long...), job(3)}, api.ErrLarge},
		{"too long an After of the last one", []api.Job{job(1), job(2), job(3, long...)}, api.ErrLarge},
		{"too long an After of the first one", []api.Job{job(1, slices.Repeat([]int{1}, api.MaxTasks+1)...), job(2)}, api.ErrLarge},
		{"too much of both", append(loose(api.MaxTasks), job(1, long...)), api.ErrLarge},
	})
}

func TestP20CheckErrCycle(t *testing.T) {
	holdCases(t, []checkCase{
		{"behind itself", []api.Job{job(1, 0)}, api.ErrCycle},
		{"behind itself, several times", []api.Job{job(1), job(2, 1, 0, 1)}, api.ErrCycle},
		{"the last one behind itself", []api.Job{job(1), job(2, 0), job(3, 0, 2)}, api.ErrCycle},
		{"two behind each other", []api.Job{job(1, 1), job(2, 0)}, api.ErrCycle},
		{"two behind each other, and others that are not", []api.Job{job(1), job(2, 0), job(3, 4), job(4, 2, 0), job(5, 3)}, api.ErrCycle},
		{"a ring, with one that waits for it", append(ring(3), job(4, 1)), api.ErrCycle},
		{"a ring, with one that it waits for", []api.Job{job(1), job(2, 0, 3), job(3, 1), job(4, 2)}, api.ErrCycle},
		{"two rings", []api.Job{job(1, 1), job(2, 0), job(3, 3), job(4, 2)}, api.ErrCycle},
		{"as great a ring as may be", ring(api.MaxTasks), api.ErrCycle},
		{"as long an After of itself as may be", []api.Job{job(1, make([]int, api.MaxTasks)...)}, api.ErrCycle},
	})
	l := dense(api.MaxTasks)
	l[api.MaxTasks/2].After = append(l[api.MaxTasks/2].After, api.MaxTasks/2+1)
	holdCases(t, []checkCase{{"one that stands too early", l, api.ErrCycle}})
}

func TestP20CheckOrderOfErrors(t *testing.T) {
	long := make([]int, api.MaxTasks+1)
	holdCases(t, []checkCase{
		{"wrong Length behind too many jobs", append(loose(api.MaxTasks+1), api.Job{}), api.ErrArg},
		{"wrong Length ahead of too many jobs", append([]api.Job{{}}, loose(api.MaxTasks+1)...), api.ErrArg},
		{"wrong After behind too many jobs", append(loose(api.MaxTasks+1), job(1, -1)), api.ErrArg},
		{"wrong number at the end of too long an After", []api.Job{job(1), job(2, append(long, 2)...)}, api.ErrArg},
		{"wrong Length of one with too long an After", []api.Job{job(1), {After: long}}, api.ErrArg},
		{"wrong Length behind too long an After", []api.Job{job(1), job(2, long...), {}}, api.ErrArg},
		{"wrong Length and a ring", append(ring(3), api.Job{}), api.ErrArg},
		{"wrong After in a ring", []api.Job{job(1, 1), job(2, 0, 2)}, api.ErrArg},
		{"too great a ring", ring(api.MaxTasks + 1), api.ErrLarge},
		{"too many jobs, with a ring among them", append(ring(3), loose(api.MaxTasks)...), api.ErrLarge},
		{"too long an After, of itself", []api.Job{job(1, long...)}, api.ErrLarge},
		{"too long an After, and a ring", append(ring(3), job(1, long...)), api.ErrLarge},
		{"all of it", slices.Concat(ring(3), loose(api.MaxTasks), []api.Job{job(1, long...), {}}), api.ErrArg},
	})
}
