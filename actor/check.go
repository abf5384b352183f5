package actor

import "lockstep/api"

// kinds of letters, from 1 on.
const kinds = 100

func isKind(kind int) bool { return kind >= 1 && kind <= kinds }

func isActor(to, actors int) bool { return to >= 0 && to < actors }

// allLettersSound: all of them are looked at, however many, because a wrong one is told ahead of too many.
func allLettersSound(letters []api.Letter, actors int) bool {
	for _, l := range letters {
		if l.Time < 0 || l.Time > api.MaxItems || !isActor(l.To, actors) || !isKind(l.Kind) {
			return false
		}
	}
	return true
}

// allRulesSound: the rules of all actors are looked at, however many, because a wrong one is told ahead of too many.
func allRulesSound(rules [][]api.Rule) bool {
	for _, own := range rules {
		var taken [kinds + 1]bool
		for _, r := range own {
			if !isKind(r.Kind) || taken[r.Kind] || !sound(r, len(rules)) {
				return false
			}
			taken[r.Kind] = true
		}
	}
	return true
}

// sound: does it say what is sent, if something is, and nothing of it if not?
func sound(r api.Rule, actors int) bool {
	if r.Mod == 0 {
		return r.Send == 0 && r.To == 0 && r.After == 0
	}
	return r.Mod > 0 && isKind(r.Send) && isActor(r.To, actors) && r.After >= 1 && r.After <= api.MaxOps
}
