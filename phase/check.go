package phase

import "lockstep/api"

// allSound: all that the processes do is looked at, however much it is, because what is wrong is told ahead of what is too much.
func allSound(all [][]api.Do) bool {
	for _, dos := range all {
		for _, d := range dos {
			if !sound(d, len(all)) {
				return false
			}
		}
	}
	return true
}

// sound: can one of so many processes do it?
func sound(d api.Do, processes int) bool {
	switch d.Kind {
	case api.DoAdd:
		return d.To == 0
	case api.DoSend:
		return d.To >= 0 && d.To < processes
	case api.DoFold, api.DoSync:
		return d.To == 0 && d.N == 0
	}
	return false
}

// tooLarge: are there too many processes, or does one do too much?
func tooLarge(all [][]api.Do) bool {
	if len(all) > api.MaxTasks {
		return true
	}
	for _, dos := range all {
		if len(dos) > api.MaxOps {
			return true
		}
	}
	return false
}
