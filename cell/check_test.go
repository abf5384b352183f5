package cell_test

import (
	"math"
	"testing"

	"lockstep/api"
	"lockstep/cell"
)

func take(n int) api.Deed             { return api.Deed{Kind: api.Take, Cell: n} }
func give(n int, more int64) api.Deed { return api.Deed{Kind: api.Give, Cell: n, N: more} }
func set(n int64) api.Deed            { return api.Deed{Kind: api.Set, N: n} }

// tasksOf: so many tasks, each with so many Sets.
func tasksOf(tasks, deeds int) [][]api.Deed {
	l := make([][]api.Deed, tasks)
	for i := range l {
		for range deeds {
			l[i] = append(l[i], set(1))
		}
	}
	return l
}

// with: the tasks, and one more.
func with(tasks [][]api.Deed, more ...api.Deed) [][]api.Deed {
	return append(append([][]api.Deed{}, tasks...), more)
}

type checkCase struct {
	what  string
	tasks [][]api.Deed
	cells int
	want  api.Errno
}

// holdCases: Check says what is wanted, and Run says the same error with no lists beside it, whether its workers are right or wrong.
func holdCases(t *testing.T, cases []checkCase) {
	t.Helper()
	for _, c := range cases {
		if got := cell.Check(c.tasks, c.cells); got != c.want {
			t.Errorf("%s: Check says %d, not %d", c.what, got, c.want)
		}
		for _, workers := range []int{1, api.MaxWorkers, 0} {
			told, written, got := cell.Run(c.tasks, c.cells, workers)
			want := c.want
			if want == api.OK && workers == 0 {
				want = api.ErrArg
			}
			if got != want {
				t.Errorf("%s: Run with %d workers says %d, not %d", c.what, workers, got, want)
			}
			if got != api.OK && (told != nil || written != nil) {
				t.Errorf("%s: lists beside the error %d", c.what, got)
			}
		}
	}
}

func TestP3CheckTakesWhatIsSound(t *testing.T) {
	holdCases(t, []checkCase{
		{"nothing at all", nil, 0, api.OK},
		{"no tasks", [][]api.Deed{}, 3, api.OK},
		{"tasks without deeds", [][]api.Deed{nil, {}}, 0, api.OK},
		{"as many cells as may be", nil, api.MaxCells, api.OK},
		{"a Set without cells", [][]api.Deed{{set(5)}}, 0, api.OK},
		{"any N of Set and Give", [][]api.Deed{{set(math.MinInt64), give(0, math.MaxInt64), give(1, math.MinInt64), set(math.MaxInt64)}}, 2, api.OK},
		{"the last cell", [][]api.Deed{{give(99, 0), take(99)}}, 100, api.OK},
		{"one cell taken often", [][]api.Deed{{take(0), take(0)}, {take(0)}}, 1, api.OK},
		{"as many tasks as may be", tasksOf(api.MaxTasks, 1), 0, api.OK},
		{"as many deeds as may be", tasksOf(2, api.MaxOps), 0, api.OK},
	})
}

func TestP3CheckErrArg(t *testing.T) {
	holdCases(t, []checkCase{
		{"cells below 0", nil, -1, api.ErrArg},
		{"cells far below 0", nil, math.MinInt, api.ErrArg},
		{"too many cells", nil, api.MaxCells + 1, api.ErrArg},
		{"far too many cells", nil, math.MaxInt, api.ErrArg},
		{"kind 0", [][]api.Deed{{{}}}, 1, api.ErrArg},
		{"kind 4", [][]api.Deed{{{Kind: 4}}}, 1, api.ErrArg},
		{"kind -1", [][]api.Deed{{{Kind: -1}}}, 1, api.ErrArg},
		{"a Take with N", [][]api.Deed{{{Kind: api.Take, N: 1}}}, 1, api.ErrArg},
		{"a Set with a cell", [][]api.Deed{{{Kind: api.Set, Cell: 1}}}, 2, api.ErrArg},
		{"a Set with a cell below 0", [][]api.Deed{{{Kind: api.Set, Cell: -1}}}, 2, api.ErrArg},
		{"a Take of no cell", [][]api.Deed{{take(2)}}, 2, api.ErrArg},
		{"a Take below 0", [][]api.Deed{{take(-1)}}, 2, api.ErrArg},
		{"a Take without cells", [][]api.Deed{{take(0)}}, 0, api.ErrArg},
		{"a Give to no cell", [][]api.Deed{{give(2, 0)}}, 2, api.ErrArg},
		{"a Give below 0", [][]api.Deed{{give(-1, 0)}}, 2, api.ErrArg},
		{"a Give without cells", [][]api.Deed{{give(0, 0)}}, 0, api.ErrArg},
		{"a Give beyond all cells", [][]api.Deed{{give(math.MaxInt, 0)}}, api.MaxCells, api.ErrArg},
		{"the last deed of the last task", [][]api.Deed{{set(1)}, {set(1), take(1)}}, 1, api.ErrArg},
	})
}

func TestP3CheckErrLarge(t *testing.T) {
	holdCases(t, []checkCase{
		{"too many tasks", tasksOf(api.MaxTasks+1, 1), 0, api.ErrLarge},
		{"too many tasks without deeds", tasksOf(api.MaxTasks+1, 0), 0, api.ErrLarge},
		{"too many deeds", tasksOf(1, api.MaxOps+1), 0, api.ErrLarge},
		{"too many deeds of the last task", append(tasksOf(3, 1), tasksOf(1, api.MaxOps+1)...), 0, api.ErrLarge},
	})
}

func TestP3CheckErrTwice(t *testing.T) {
	holdCases(t, []checkCase{
		{"two Gives of one task", [][]api.Deed{{give(1, 0), give(1, 0)}}, 2, api.ErrTwice},
		{"two Gives of two tasks", [][]api.Deed{{give(0, 1)}, nil, {set(1), give(0, 2)}}, 1, api.ErrTwice},
		{"two Gives to the last cell", [][]api.Deed{{give(99, 1)}, {give(99, 2)}}, 100, api.ErrTwice},
		{"a Give that is never come to", [][]api.Deed{{take(1), give(0, 0)}, {give(0, 0)}}, 2, api.ErrTwice},
	})
}

func TestP3CheckOrderOfErrors(t *testing.T) {
	wrong := api.Deed{Kind: 9}
	manyTasks, manyDeeds := tasksOf(api.MaxTasks+1, 1), tasksOf(1, api.MaxOps+1)
	twice := []api.Deed{give(0, 0), give(0, 0)}
	holdCases(t, []checkCase{
		{"wrong deed behind too many tasks", with(manyTasks, wrong), 1, api.ErrArg},
		{"wrong deed behind too many deeds", with(manyDeeds, wrong), 1, api.ErrArg},
		{"wrong deed behind two Gives", with([][]api.Deed{twice}, wrong), 1, api.ErrArg},
		{"wrong cells and too many tasks", manyTasks, -1, api.ErrArg},
		{"wrong cells and two Gives", [][]api.Deed{twice}, api.MaxCells + 1, api.ErrArg},
		{"two Gives and too many tasks", with(manyTasks, twice...), 1, api.ErrLarge},
		{"two Gives ahead of too many deeds", append([][]api.Deed{twice}, manyDeeds...), 1, api.ErrLarge},
	})
}
