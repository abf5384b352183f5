package txn

import "lockstep/api"

// allSound: the whole of the transactions is looked at, however large, because a wrong deed is told ahead of too many.
func allSound(l [][]api.TxDeed, places int) bool {
	for _, deeds := range l {
		for _, d := range deeds {
			if !sound(d, places) {
				return false
			}
		}
	}
	return true
}

// sound: is it a deed over so many places?
func sound(d api.TxDeed, places int) bool {
	switch d.Kind {
	case api.TxAdd, api.TxNeed:
		return d.Place == 0
	case api.TxGet, api.TxPut:
		return d.Place >= 0 && d.Place < places && d.N == 0
	case api.TxAt, api.TxClear:
		return d.Place == 0 && d.N == 0
	}
	return false
}

// tooLarge: are there too many transactions, or too many deeds of one?
func tooLarge(l [][]api.TxDeed) bool {
	if len(l) > api.MaxTasks {
		return true
	}
	for _, deeds := range l {
		if len(deeds) > api.MaxOps {
			return true
		}
	}
	return false
}
