// Package cell: cells that are written once: see doc/01-cell.md.
package cell

import "lockstep/api"

// Check: P3.
func Check(tasks [][]api.Deed, cells int) api.Errno {
	switch {
	case cells < 0 || cells > api.MaxCells || !allSound(tasks, cells):
		return api.ErrArg
	case tooLarge(tasks):
		return api.ErrLarge
	case givenTwice(tasks):
		return api.ErrTwice
	}
	return api.OK
}

// Run: P4.
func Run(tasks [][]api.Deed, cells, workers int) ([]api.Told, []api.Told, api.Errno) {
	if err := Check(tasks, cells); err != api.OK {
		return nil, nil, err
	}
	if workers < 1 || workers > api.MaxWorkers {
		return nil, nil, api.ErrArg
	}
	c := newCrew(tasks, cells)
	c.workOff(workers)
	return c.tellTasks(), c.tellCells(), api.OK
}
