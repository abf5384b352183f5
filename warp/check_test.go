package warp_test

import (
	"math"
	"slices"
	"testing"

	"lockstep/actor"
	"lockstep/api"
	"lockstep/warp"
)

const kinds = 100

// counts: a rule that adds up what comes, and sends nothing.
func counts(kind int) api.Rule { return api.Rule{Kind: kind, Times: 1} }

// rulesOf: so many actors, each with so many rules, for the kinds from 1 on.
func rulesOf(actors, rules int) [][]api.Rule {
	all := make([][]api.Rule, actors)
	for i := range all {
		for k := range rules {
			all[i] = append(all[i], counts(k+1))
		}
	}
	return all
}

// lettersOf: so many letters to the first actor.
func lettersOf(n int) []api.Letter {
	return slices.Repeat([]api.Letter{{Kind: 1, N: 1}}, n)
}

type checkCase struct {
	what    string
	rules   [][]api.Rule
	letters []api.Letter
	want    api.Errno
}

// holdCases: Run says the error that is wanted, as actor.Check does, with nothing beside it, whether all else is right or wrong.
func holdCases(t *testing.T, cases []checkCase) {
	t.Helper()
	for _, c := range cases {
		if got := actor.Check(c.rules, c.letters); got != c.want {
			t.Errorf("%s: actor.Check says %d, not %d", c.what, got, c.want)
		}
		for _, more := range [][3]int{{0, 1, 1}, {api.MaxOps, api.MaxOps, api.MaxWorkers}, {5, 1, 0}, {5, 0, 1}, {-1, 1, 1}} {
			want := c.want
			if want == api.OK && (more[0] < 0 || more[1] < 1 || more[2] < 1) {
				want = api.ErrArg
			}
			numbers, got := warp.Run(c.rules, c.letters, more[0], more[1], more[2])
			if got != want {
				t.Errorf("%s: Run with %v says %d, not %d", c.what, more, got, want)
			}
			if got != api.OK && numbers != nil {
				t.Errorf("%s: an answer beside the error %d: %v", c.what, got, numbers)
			}
			if got == api.OK && len(numbers) != len(c.rules) {
				t.Errorf("%s: %d numbers", c.what, len(numbers))
			}
		}
	}
}

func TestP19RunTakesWhatIsSound(t *testing.T) {
	great := []api.Rule{
		{Kind: 1, Times: math.MinInt64, Plus: math.MaxInt64},
		{Kind: kinds, Times: math.MaxInt64, Plus: math.MinInt64, Mod: math.MaxInt64, Send: kinds, To: 1, After: api.MaxOps},
		{Kind: 50, Mod: 1, Send: 1, To: 0, After: 1},
	}
	holdCases(t, []checkCase{
		{"nothing", nil, nil, api.OK},
		{"nothing in lists", [][]api.Rule{}, []api.Letter{}, api.OK},
		{"letters to actors without rules", [][]api.Rule{nil, {}}, []api.Letter{{Kind: 1}, {To: 1, Kind: kinds}}, api.OK},
		{"rules without letters", [][]api.Rule{great, great}, nil, api.OK},
		{"the edges of letters", [][]api.Rule{great, great}, []api.Letter{
			{Time: 0, To: 0, Kind: 1, N: math.MinInt64},
			{Time: api.MaxItems, To: 1, Kind: kinds, N: math.MaxInt64},
		}, api.OK},
		{"one letter twice", [][]api.Rule{{counts(7)}}, []api.Letter{{Kind: 7}, {Kind: 7}}, api.OK},
		{"as much of all as may be", rulesOf(api.MaxTasks, kinds), lettersOf(api.MaxTasks), api.OK},
	})
}

func TestP19RunErrorsOfCheck(t *testing.T) {
	rules := [][]api.Rule{{counts(1)}, {counts(1)}}
	right := api.Letter{Kind: 1}
	var cases []checkCase
	letter := func(what string, l api.Letter) {
		cases = append(cases, checkCase{what, rules, []api.Letter{right, l}, api.ErrArg})
	}
	rule := func(what string, r api.Rule) {
		cases = append(cases, checkCase{what, [][]api.Rule{{counts(8)}, {counts(9), r}}, nil, api.ErrArg})
	}
	for _, no := range []int{-1, api.MaxItems + 1, math.MinInt, math.MaxInt} {
		letter("a time that is none", api.Letter{Time: no, Kind: 1})
	}
	for _, no := range []int{-1, 2, math.MinInt, math.MaxInt} {
		letter("an actor that is none", api.Letter{To: no, Kind: 1})
		rule("a To that is no actor", api.Rule{Kind: 1, Mod: 1, Send: 1, To: no, After: 1})
	}
	for _, no := range []int{-1, 0, kinds + 1, math.MinInt, math.MaxInt} {
		letter("a kind that is none", api.Letter{Kind: no})
		rule("a kind that is none", api.Rule{Kind: no})
		rule("a Send that is no kind", api.Rule{Kind: 1, Mod: 1, Send: no, After: 1})
	}
	for _, no := range []int{-1, 0, api.MaxOps + 1, math.MinInt, math.MaxInt} {
		rule("an After that can't be", api.Rule{Kind: 1, Mod: 1, Send: 1, After: no})
	}
	for _, no := range []int64{-1, math.MinInt64} {
		rule("a Mod below 0", api.Rule{Kind: 1, Mod: no, Send: 1, After: 1})
	}
	rule("a Send without Mod", api.Rule{Kind: 1, Send: 1})
	rule("a To without Mod", api.Rule{Kind: 1, To: 1})
	rule("an After without Mod", api.Rule{Kind: 1, After: 1})
	rule("one kind twice", counts(9))
	holdCases(t, append(cases,
		checkCase{"a letter where there are no actors", nil, []api.Letter{right}, api.ErrArg},
		checkCase{"too many actors", rulesOf(api.MaxTasks+1, 1), nil, api.ErrLarge},
		checkCase{"too many letters", rulesOf(1, 1), lettersOf(api.MaxTasks + 1), api.ErrLarge},
		checkCase{"a wrong letter behind too many", rulesOf(1, 1), append(lettersOf(api.MaxTasks+1), api.Letter{}), api.ErrArg},
	))
}

func TestP19RunErrArgOfEndWindowAndWorkers(t *testing.T) {
	rules, letters := chains(api.MaxTasks)
	no := func(end, window, workers int) {
		t.Helper()
		if numbers, err := warp.Run(rules, letters, end, window, workers); err != api.ErrArg || numbers != nil {
			t.Error(end, window, workers, err, numbers)
		}
		if numbers, err := warp.Run(nil, nil, end, window, workers); err != api.ErrArg || numbers != nil {
			t.Error(end, window, workers, err, numbers)
		}
		if numbers, err := warp.Run(rulesOf(api.MaxTasks+1, 0), nil, end, window, workers); err != api.ErrLarge || numbers != nil {
			t.Error(end, window, workers, err, numbers)
		}
	}
	for _, end := range []int{math.MinInt, -1, api.MaxOps + 1, api.MaxItems, math.MaxInt} {
		no(end, 1, 1)
		no(end, api.MaxOps, api.MaxWorkers)
		no(end, 0, 0)
	}
	for _, window := range []int{math.MinInt, -1, 0, api.MaxOps + 1, api.MaxItems, math.MaxInt} {
		no(0, window, 1)
		no(api.MaxOps, window, api.MaxWorkers)
	}
	for _, workers := range []int{math.MinInt, -1, 0, api.MaxWorkers + 1, math.MaxInt} {
		no(0, 1, workers)
		no(api.MaxOps, api.MaxOps, workers)
	}
}
