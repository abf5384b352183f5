package lattice_test

import (
	"math"
	"slices"
	"testing"

	"lockstep/api"
	"lockstep/lattice"
)

func join(cell int, n int64) api.Rise { return api.Rise{Kind: api.Join, Cell: cell, N: n} }
func wait(cell int, n int64) api.Rise { return api.Rise{Kind: api.Wait, Cell: cell, N: n} }
func read(cell int) api.Rise          { return api.Rise{Kind: api.Read, Cell: cell} }

// cellsOf: so many cells of one kind.
func cellsOf(kind, cells int) []int { return slices.Repeat([]int{kind}, cells) }

// tasksOf: so many tasks, each with so many deeds over the cell 0.
func tasksOf(tasks, deeds int) [][]api.Rise {
	l := make([][]api.Rise, tasks)
	for i := range l {
		l[i] = slices.Repeat([]api.Rise{join(0, 1)}, deeds)
	}
	return l
}

type checkCase struct {
	what  string
	tasks [][]api.Rise
	kinds []int
	want  api.Errno
}

// holdCases: Check says what is wanted, and Run says the same error with no lists beside it, whether its workers are right or wrong.
func holdCases(t *testing.T, cases []checkCase) {
	t.Helper()
	for _, c := range cases {
		if got := lattice.Check(c.tasks, c.kinds); got != c.want {
			t.Errorf("%s: Check says %d, not %d", c.what, got, c.want)
		}
		for _, workers := range []int{1, api.MaxWorkers, 0} {
			told, numbers, got := lattice.Run(c.tasks, c.kinds, workers)
			want := c.want
			if want == api.OK && workers == 0 {
				want = api.ErrArg
			}
			if got != want {
				t.Errorf("%s: Run with %d workers says %d, not %d", c.what, workers, got, want)
			}
			if got != api.OK && (told != nil || numbers != nil) {
				t.Errorf("%s: lists beside the error %d", c.what, got)
			}
			if got == api.OK && (len(told) != len(c.tasks) || len(numbers) != len(c.kinds)) {
				t.Errorf("%s: %d of %d tasks, %d of %d cells", c.what, len(told), len(c.tasks), len(numbers), len(c.kinds))
			}
		}
	}
}

func TestP12CheckTakesWhatIsSound(t *testing.T) {
	grow, union := []int{api.Grow}, []int{api.Union}
	holdCases(t, []checkCase{
		{"nothing at all", nil, nil, api.OK},
		{"nothing at all, in lists", [][]api.Rise{}, []int{}, api.OK},
		{"no tasks", nil, []int{api.Grow, api.Union}, api.OK},
		{"tasks without deeds", [][]api.Rise{nil, {}}, nil, api.OK},
		{"as many cells as may be", nil, cellsOf(api.Union, api.MaxCells), api.OK},
		{"the last cell", [][]api.Rise{{join(99, 1), wait(99, 1), read(99)}}, cellsOf(api.Grow, 100), api.OK},
		{"the least N, Grow", [][]api.Rise{{join(0, 0), wait(0, 0), read(0)}}, grow, api.OK},
		{"the least N, Union", [][]api.Rise{{join(0, 0), wait(0, 0), read(0)}}, union, api.OK},
		{"the greatest N, Grow", [][]api.Rise{{wait(0, 1<<62), join(0, 1<<62)}}, grow, api.OK},
		{"the greatest N, Union", [][]api.Rise{{wait(0, 1<<62), join(0, 1<<62)}}, union, api.OK},
		{"one cell often", [][]api.Rise{{join(0, 1), join(0, 1)}, {join(0, 1)}}, grow, api.OK},
		{"as many tasks as may be", tasksOf(api.MaxTasks, 1), grow, api.OK},
		{"as many deeds as may be", tasksOf(2, api.MaxOps), union, api.OK},
		{"as many tasks and deeds as may be", tasksOf(api.MaxTasks, api.MaxOps), grow, api.OK},
	})
}

func TestP12CheckErrArgOfKinds(t *testing.T) {
	cases := []checkCase{
		{"too many cells", nil, cellsOf(api.Grow, api.MaxCells+1), api.ErrArg},
		{"far too many cells", nil, cellsOf(api.Union, 100*api.MaxCells), api.ErrArg},
	}
	for _, no := range []int{0, 3, -1, math.MinInt, math.MaxInt} {
		cases = append(cases,
			checkCase{"a kind that is none", nil, []int{no}, api.ErrArg},
			checkCase{"the last kind is none", tasksOf(1, 1), []int{api.Grow, api.Union, no}, api.ErrArg},
			checkCase{"the first kind is none", nil, []int{no, api.Union}, api.ErrArg},
		)
	}
	holdCases(t, cases)
}

func TestP12CheckErrArgOfDeeds(t *testing.T) {
	var cases []checkCase
	wrong := func(what string, d api.Rise) {
		for _, kind := range []int{api.Grow, api.Union} {
			kinds := cellsOf(kind, 2)
			cases = append(cases,
				checkCase{what, [][]api.Rise{{d}}, kinds, api.ErrArg},
				checkCase{what + ", the last one", [][]api.Rise{{read(0)}, {join(0, 1), wait(1, 0), d}}, kinds, api.ErrArg},
				checkCase{what + ", of the first task", [][]api.Rise{{d, read(0)}, {join(0, 1)}}, kinds, api.ErrArg},
				checkCase{what + ", behind one that waits for ever", [][]api.Rise{{wait(0, 1), d}}, kinds, api.ErrArg},
			)
		}
	}
	for _, no := range []int{0, 4, -1, math.MinInt, math.MaxInt} {
		wrong("a deed that is none", api.Rise{Kind: no})
	}
	for _, kind := range []int{api.Join, api.Wait, api.Read} {
		for _, no := range []int{-1, 2, api.MaxCells, math.MinInt, math.MaxInt} {
			wrong("a cell that is none", api.Rise{Kind: kind, Cell: no})
		}
		for _, no := range []int64{-1, math.MinInt64, 1<<62 + 1, math.MaxInt64} {
			wrong("an N that may not be", api.Rise{Kind: kind, N: no})
		}
		cases = append(cases, checkCase{"a cell where there is none", [][]api.Rise{{{Kind: kind}}}, nil, api.ErrArg})
	}
	wrong("a Read with an N", api.Rise{Kind: api.Read, N: 1})
	wrong("a Read with a great N", api.Rise{Kind: api.Read, N: 1 << 62})
	holdCases(t, cases)
}

func TestP12CheckErrLarge(t *testing.T) {
	kinds := []int{api.Union}
	holdCases(t, []checkCase{
		{"too many tasks", tasksOf(api.MaxTasks+1, 1), kinds, api.ErrLarge},
		{"too many tasks without deeds", tasksOf(api.MaxTasks+1, 0), nil, api.ErrLarge},
		{"too many deeds", tasksOf(1, api.MaxOps+1), kinds, api.ErrLarge},
		{"too many deeds of the last task", slices.Concat(tasksOf(3, 1), tasksOf(1, api.MaxOps+1)), kinds, api.ErrLarge},
		{"too many deeds of the first task", slices.Concat(tasksOf(1, api.MaxOps+1), tasksOf(3, 1)), kinds, api.ErrLarge},
	})
}

func TestP12CheckOrderOfErrors(t *testing.T) {
	kinds := []int{api.Grow}
	manyTasks, manyDeeds := tasksOf(api.MaxTasks+1, 1), tasksOf(1, api.MaxOps+1)
	wrong := [][]api.Rise{{{Kind: 9}}}
	holdCases(t, []checkCase{
		{"wrong deed behind too many tasks", slices.Concat(manyTasks, wrong), kinds, api.ErrArg},
		{"wrong deed behind too many deeds", slices.Concat(manyDeeds, wrong), kinds, api.ErrArg},
		{"wrong deed ahead of too many deeds", slices.Concat(wrong, manyDeeds), kinds, api.ErrArg},
		{"wrong deed as one too many", [][]api.Rise{append(tasksOf(1, api.MaxOps)[0], wrong[0]...)}, kinds, api.ErrArg},
		{"wrong kind and too many tasks", manyTasks, []int{api.Grow, 3}, api.ErrArg},
		{"wrong kind and too many deeds", manyDeeds, []int{api.Grow, 0}, api.ErrArg},
		{"too many cells and too many tasks", manyTasks, cellsOf(api.Grow, api.MaxCells+1), api.ErrArg},
	})
}
