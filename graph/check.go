package graph

import "lockstep/api"

// maxLength of a job; the least one is 1.
const maxLength = 1000

// checkFor: what is wrong with the jobs comes ahead of what is wrong with the workers.
func checkFor(l []api.Job, workers int) api.Errno {
	if err := Check(l); err != api.OK {
		return err
	}
	if workers < 1 || workers > api.MaxWorkers {
		return api.ErrArg
	}
	return api.OK
}

// allSound: all jobs are looked at, however many, because a wrong one is told ahead of too many.
func allSound(l []api.Job) bool {
	for _, j := range l {
		if j.Length < 1 || j.Length > maxLength {
			return false
		}
		for _, ahead := range j.After {
			if ahead < 0 || ahead >= len(l) {
				return false
			}
		}
	}
	return true
}

// tooLarge: are there too many jobs, or too many numbers in an After?
func tooLarge(l []api.Job) bool {
	if len(l) > api.MaxTasks {
		return true
	}
	for _, j := range l {
		if len(j.After) > api.MaxTasks {
			return true
		}
	}
	return false
}
