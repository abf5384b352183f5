package lattice

import "lockstep/api"

// greatestN of a Join or a Wait: the bits of several such numbers, and so every number of a cell, fit into 63.
const greatestN = 1 << 62

// allKinds: is each of these a kind of cell?
func allKinds(kinds []int) bool {
	for _, kind := range kinds {
		if kind != api.Grow && kind != api.Union {
			return false
		}
	}
	return true
}

// allSound: the whole of the tasks is looked at, however large, because a wrong deed is told ahead of too many.
func allSound(tasks [][]api.Rise, cells int) bool {
	for _, deeds := range tasks {
		for _, d := range deeds {
			if !sound(d, cells) {
				return false
			}
		}
	}
	return true
}

// sound: is it a deed over so many cells?
func sound(d api.Rise, cells int) bool {
	if d.Cell < 0 || d.Cell >= cells {
		return false
	}
	switch d.Kind {
	case api.Join, api.Wait:
		return d.N >= 0 && d.N <= greatestN
	case api.Read:
		return d.N == 0
	}
	return false
}

// tooLarge: are there too many tasks, or too many deeds of one?
func tooLarge(tasks [][]api.Rise) bool {
	if len(tasks) > api.MaxTasks {
		return true
	}
	for _, deeds := range tasks {
		if len(deeds) > api.MaxOps {
			return true
		}
	}
	return false
}
