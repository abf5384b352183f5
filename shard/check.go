package shard

import "lockstep/api"

// maxText: how many bytes a key or a name may have. Package api has no name for it.
const maxText = 100

// mayBe: may there be so many shards, or workers?
func mayBe(count int) bool { return count >= 1 && count <= api.MaxWorkers }

// allSound: the whole of the lists is looked at, however large, because a wrong effect is told ahead of too many.
func allSound(all [][]api.Effect) bool {
	for _, list := range all {
		for _, e := range list {
			if !sound(e) {
				return false
			}
		}
	}
	return true
}

// sound: is it an effect, on a key?
func sound(e api.Effect) bool {
	switch e.Kind {
	case api.EffAdd, api.EffMax, api.EffBits:
		return len(e.Key) <= maxText
	}
	return false
}

// tooLarge: are there too many lists, or too many effects in all?
func tooLarge(all [][]api.Effect) bool {
	if len(all) > api.MaxTasks {
		return true
	}
	effects := 0
	for _, list := range all {
		effects += len(list)
	}
	return effects > api.MaxItems
}

// mixed: has a key effects of two kinds? No effect is of the kind 0, so that a key has it only while it has not been seen.
func mixed(all [][]api.Effect) bool {
	kinds := map[string]int{}
	for _, list := range all {
		for _, e := range list {
			if kind := kinds[e.Key]; kind != 0 && kind != e.Kind {
				return true
			}
			kinds[e.Key] = e.Kind
		}
	}
	return false
}
