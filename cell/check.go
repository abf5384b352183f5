package cell

import "lockstep/api"

// allSound: the whole of the tasks is looked at, however large, because a wrong deed is told ahead of too many.
func allSound(tasks [][]api.Deed, cells int) bool {
	for _, deeds := range tasks {
		for _, d := range deeds {
			if !sound(d, cells) {
				return false
			}
		}
	}
	return true
}

// sound: is it a deed over so many cells?
func sound(d api.Deed, cells int) bool {
	isCell := d.Cell >= 0 && d.Cell < cells
	switch d.Kind {
	case api.Take:
		return isCell && d.N == 0
	case api.Give:
		return isCell
	case api.Set:
		return d.Cell == 0
	}
	return false
}

// tooLarge: are there too many tasks, or too many deeds of one?
func tooLarge(tasks [][]api.Deed) bool {
	if len(tasks) > api.MaxTasks {
		return true
	}
	for _, deeds := range tasks {
		if len(deeds) > api.MaxOps {
			return true
		}
	}
	return false
}

// givenTwice counts Gives as they are written down: one that its task never comes to is a Give all the same. The deeds must be sound.
func givenTwice(tasks [][]api.Deed) bool {
	var given [api.MaxCells]bool
	for _, deeds := range tasks {
		for _, d := range deeds {
			if d.Kind != api.Give {
				continue
			}
			if given[d.Cell] {
				return true
			}
			given[d.Cell] = true
		}
	}
	return false
}
