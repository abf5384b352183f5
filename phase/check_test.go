package phase_test

import (
	"math"
	"testing"

	"lockstep/api"
	"lockstep/phase"
)

func add(n int64) api.Do          { return api.Do{Kind: api.DoAdd, N: n} }
func send(to int, n int64) api.Do { return api.Do{Kind: api.DoSend, To: to, N: n} }
func fold() api.Do                { return api.Do{Kind: api.DoFold} }
func end() api.Do                 { return api.Do{Kind: api.DoSync} }

// processesOf: so many processes, each of which does so many things.
func processesOf(processes, dos int) [][]api.Do {
	l := make([][]api.Do, processes)
	for i := range l {
		for range dos {
			l[i] = append(l[i], add(1))
		}
	}
	return l
}

// with: the processes, and one more.
func with(all [][]api.Do, more ...api.Do) [][]api.Do {
	return append(append([][]api.Do{}, all...), more)
}

type checkCase struct {
	what string
	all  [][]api.Do
	want api.Errno
}

// holdCases: Check says what is wanted, and Run says the same error with nothing beside it, whether its workers are right or wrong.
func holdCases(t *testing.T, cases []checkCase) {
	t.Helper()
	for _, c := range cases {
		if got := phase.Check(c.all); got != c.want {
			t.Errorf("%s: Check says %d, not %d", c.what, got, c.want)
		}
		for _, workers := range []int{1, api.MaxWorkers, 0} {
			numbers, phases, got := phase.Run(c.all, workers)
			want := c.want
			if want == api.OK && workers == 0 {
				want = api.ErrArg
			}
			if got != want {
				t.Errorf("%s: Run with %d workers says %d, not %d", c.what, workers, got, want)
			}
			if got != api.OK && (numbers != nil || phases != 0) {
				t.Errorf("%s: answers beside the error %d: %v %d", c.what, got, numbers, phases)
			}
		}
	}
}

func TestP9CheckTakesWhatIsSound(t *testing.T) {
	last := make([][]api.Do, api.MaxTasks)
	last[0] = []api.Do{send(api.MaxTasks-1, 0)}
	holdCases(t, []checkCase{
		{"nothing", nil, api.OK},
		{"no processes", [][]api.Do{}, api.OK},
		{"processes that do nothing", [][]api.Do{nil, {}}, api.OK},
		{"all kinds", [][]api.Do{{add(1), send(0, 2), fold(), end()}}, api.OK},
		{"any N of DoAdd and DoSend", [][]api.Do{{add(math.MinInt64), add(math.MaxInt64), send(0, math.MinInt64), send(0, math.MaxInt64)}}, api.OK},
		{"to the first and to the last", [][]api.Do{nil, {send(0, 1), send(1, 1), send(2, 1)}, nil}, api.OK},
		{"to the last of all", last, api.OK},
		{"as many processes as may be", processesOf(api.MaxTasks, 1), api.OK},
		{"as many things as may be", processesOf(2, api.MaxOps), api.OK},
	})
}

func TestP9CheckErrArg(t *testing.T) {
	one := func(kind, to int, n int64) [][]api.Do {
		return [][]api.Do{nil, {add(1), {Kind: kind, To: to, N: n}}}
	}
	holdCases(t, []checkCase{
		{"kind 0", one(0, 0, 0), api.ErrArg},
		{"kind 5", one(5, 0, 0), api.ErrArg},
		{"kind -1", one(-1, 0, 0), api.ErrArg},
		{"a great kind", one(math.MaxInt, 0, 0), api.ErrArg},
		{"a small kind", one(math.MinInt, 0, 0), api.ErrArg},
		{"a DoSend to one that is not there", one(api.DoSend, 2, 0), api.ErrArg},
		{"a DoSend below 0", one(api.DoSend, -1, 0), api.ErrArg},
		{"a DoSend far below 0", one(api.DoSend, math.MinInt, 0), api.ErrArg},
		{"a DoSend far beyond", one(api.DoSend, math.MaxInt, 0), api.ErrArg},
		{"a DoAdd with a To", one(api.DoAdd, 1, 0), api.ErrArg},
		{"a DoAdd with a To below 0", one(api.DoAdd, -1, 0), api.ErrArg},
		{"a DoFold with a To", one(api.DoFold, 1, 0), api.ErrArg},
		{"a DoFold with a To below 0", one(api.DoFold, -1, 0), api.ErrArg},
		{"a DoSync with a To", one(api.DoSync, 1, 0), api.ErrArg},
		{"a DoSync with a To below 0", one(api.DoSync, -1, 0), api.ErrArg},
		{"a DoFold with N", one(api.DoFold, 0, 1), api.ErrArg},
		{"a DoFold with N below 0", one(api.DoFold, 0, math.MinInt64), api.ErrArg},
		{"a DoSync with N", one(api.DoSync, 0, 1), api.ErrArg},
		{"a DoSync with N below 0", one(api.DoSync, 0, -1), api.ErrArg},
		{"the first thing of the first process", [][]api.Do{{{}, add(1)}, {add(1)}}, api.ErrArg},
	})
}

func TestP9CheckErrLarge(t *testing.T) {
	holdCases(t, []checkCase{
		{"too many processes", processesOf(api.MaxTasks+1, 1), api.ErrLarge},
		{"too many processes that do nothing", processesOf(api.MaxTasks+1, 0), api.ErrLarge},
		{"too many things", processesOf(1, api.MaxOps+1), api.ErrLarge},
		{"too many things of the last process", append(processesOf(3, 1), processesOf(1, api.MaxOps+1)...), api.ErrLarge},
		{"to one of too many processes", with(processesOf(api.MaxTasks, 1), send(api.MaxTasks, 0)), api.ErrLarge},
	})
}

func TestP9CheckOrderOfErrors(t *testing.T) {
	wrong := api.Do{Kind: 9}
	manyProcesses, manyDos := processesOf(api.MaxTasks+1, 1), processesOf(1, api.MaxOps+1)
	wrongToo := processesOf(1, api.MaxOps+1)
	wrongToo[0][api.MaxOps] = wrong
	holdCases(t, []checkCase{
		{"wrong behind too many processes", with(manyProcesses, wrong), api.ErrArg},
		{"wrong behind too many things", with(manyDos, wrong), api.ErrArg},
		{"wrong ahead of too many things", append([][]api.Do{{wrong}}, manyDos...), api.ErrArg},
		{"wrong beyond the last thing that may be", wrongToo, api.ErrArg},
	})
}
