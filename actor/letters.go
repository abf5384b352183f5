package actor

import "lockstep/api"

// actor with its number and its rules, by their kinds. What comes to it at one time, and what it sends then, is its own till that time is over: no other worker looks at it meanwhile.
type actor struct {
	number int64
	rules  map[int]api.Rule
	come   []api.Letter
	sent   []api.Letter
}

// byKind: the rules, each to be found by its kind.
func byKind(own []api.Rule) map[int]api.Rule {
	rules := make(map[int]api.Rule, len(own))
	for _, r := range own {
		rules[r.Kind] = r
	}
	return rules
}

// readAll that has come, in its order.
func (a *actor) readAll() {
	for _, l := range a.come {
		if r, ok := a.rules[l.Kind]; ok {
			a.follow(r, l)
		}
	}
}

// follow the rule for a letter.
func (a *actor) follow(r api.Rule, l api.Letter) {
	a.number = r.Times*a.number + r.Plus + l.N
	if r.Mod > 0 && a.number%r.Mod == 0 {
		a.sent = append(a.sent, api.Letter{Time: l.Time + r.After, To: r.To, Kind: r.Send, N: a.number})
	}
}
