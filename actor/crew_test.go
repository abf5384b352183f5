package actor

import (
	"slices"
	"testing"

	"lockstep/api"
)

// crowd: actors that send to one another at all times, several to each.
func crowd() ([][]api.Rule, []api.Letter) {
	const actors = 5
	rules := make([][]api.Rule, actors)
	var letters []api.Letter
	for i := range rules {
		for kind := 1; kind <= 3; kind++ {
			rules[i] = append(rules[i], api.Rule{Kind: kind, Times: 3, Plus: int64(kind), Mod: 1, Send: kind%3 + 1, To: (i*kind + 1) % actors, After: kind})
			letters = append(letters, api.Letter{To: (i + kind) % actors, Kind: kind, N: int64(i)})
		}
	}
	return rules, letters
}

// byOrder does all times, each in an order that is said here, and not left to the schedule.
func byOrder(c *crew, order func([]*actor)) ([]int64, []api.Letter) {
	for now := range c.times {
		due := c.begin(now)
		order(due)
		for _, a := range due {
			a.readAll()
		}
		c.finish(now)
	}
	return c.tellNumbers(), c.tellLog()
}

func TestP18RunWhoeverReadsFirst(t *testing.T) {
	const end = 40
	rules, letters := crowd()
	wantNumbers, wantLog, _ := Run(rules, letters, end, 4)
	orders := map[string]func([]*actor){
		"as they stand":      func([]*actor) {},
		"the last one first": slices.Reverse[[]*actor],
		"the second one first": func(due []*actor) {
			if len(due) > 1 {
				due[0], due[1] = due[1], due[0]
			}
		},
	}
	for what, order := range orders {
		if numbers, log := byOrder(newCrew(rules, letters, end), order); !slices.Equal(numbers, wantNumbers) || !slices.Equal(log, wantLog) {
			t.Error(what, numbers, wantNumbers)
		}
	}
}

// Those who have letters at a time are handed out one by one, each once, so that different workers may have them.
func TestP18RunWhoIsHandedOut(t *testing.T) {
	letters := []api.Letter{{To: 2, Kind: 1}, {To: 0, Kind: 1}, {To: 2, Kind: 1}, {Time: 1, To: 1, Kind: 1}, {Time: 3, To: 1, Kind: 1}}
	c := newCrew(make([][]api.Rule, 3), letters, 2)
	want := [][]*actor{{&c.actors[0], &c.actors[2]}, {&c.actors[1]}, nil}
	for now, actors := range want {
		if due := c.begin(now); !slices.Equal(due, actors) {
			t.Error(now, len(due))
		}
		c.finish(now)
	}
}

// When it is known that too many will come nothing more is done.
func TestP18RunStopsWhenTooManyWillCome(t *testing.T) {
	rules := [][]api.Rule{{{Kind: 1, Times: 1, Plus: 1, Mod: 1, Send: 1, After: 1}}}
	c := newCrew(rules, slices.Repeat([]api.Letter{{Kind: 1}}, api.MaxTasks), api.MaxOps)
	c.workOff(1)
	if !c.tooMany() || len(c.times[api.MaxOps]) > 0 {
		t.Error(c.many, len(c.times[api.MaxOps]))
	}
}
