package team

import (
	"lockstep/api"
	"lockstep/lang"
)

// checkFor: all errors but that the steps are too few.
func checkFor(l []api.Stat, start []api.Var, steps, workers int) api.Errno {
	if err := lang.Races(l); err != api.OK {
		return err
	}
	// Mean does nothing, if it may take no step, and what it says of start and steps is the same. That the program is not too large Races has said: so the steps are what is too few.
	if _, _, err := lang.Mean(l, start, min(steps, 0)); err != api.OK && err != api.ErrLarge {
		return err
	}
	if workers < 1 || workers > api.MaxWorkers {
		return api.ErrArg
	}
	return api.OK
}
