package actor_test

import (
	"math"
	"slices"
	"testing"

	"lockstep/actor"
	"lockstep/api"
)

const kinds = 100

// counts: a rule that adds up what comes, and sends nothing.
func counts(kind int) api.Rule { return api.Rule{Kind: kind, Times: 1} }

// rulesOf: so many actors, each with so many rules, for the kinds from 1 on.
func rulesOf(actors, rules int) [][]api.Rule {
	all := make([][]api.Rule, actors)
	for i := range all {
		for k := range rules {
			all[i] = append(all[i], counts(k+1))
		}
	}
	return all
}

// lettersOf: so many letters to the first actor.
func lettersOf(n int) []api.Letter {
	return slices.Repeat([]api.Letter{{Kind: 1, N: 1}}, n)
}

type checkCase struct {
	what    string
	rules   [][]api.Rule
	letters []api.Letter
	want    api.Errno
}

// holdCases: Check says what is wanted, and Run says the same error with nothing beside it, whether its workers and its end are right or wrong.
func holdCases(t *testing.T, cases []checkCase) {
	t.Helper()
	for _, c := range cases {
		if got := actor.Check(c.rules, c.letters); got != c.want {
			t.Errorf("%s: Check says %d, not %d", c.what, got, c.want)
		}
		for _, more := range [][2]int{{0, 1}, {api.MaxOps, api.MaxWorkers}, {5, 0}, {-1, 1}} {
			numbers, log, got := actor.Run(c.rules, c.letters, more[0], more[1])
			want := c.want
			if want == api.OK && (more[0] < 0 || more[1] < 1) {
				want = api.ErrArg
			}
			if got != want {
				t.Errorf("%s: Run to %d with %d workers says %d, not %d", c.what, more[0], more[1], got, want)
			}
			if got != api.OK && (numbers != nil || log != nil) {
				t.Errorf("%s: answers beside the error %d: %v %v", c.what, got, numbers, log)
			}
		}
	}
}

func TestP17CheckTakesWhatIsSound(t *testing.T) {
	great := []api.Rule{
		{Kind: 1, Times: math.MinInt64, Plus: math.MaxInt64},
		{Kind: kinds, Times: math.MaxInt64, Plus: math.MinInt64, Mod: math.MaxInt64, Send: kinds, To: 1, After: api.MaxOps},
		{Kind: 50, Mod: 1, Send: 1, To: 0, After: 1},
	}
	holdCases(t, []checkCase{
		{"nothing", nil, nil, api.OK},
		{"nothing in lists", [][]api.Rule{}, []api.Letter{}, api.OK},
		{"actors without rules", [][]api.Rule{nil, {}}, nil, api.OK},
		{"letters to actors without rules", [][]api.Rule{nil, {}}, []api.Letter{{Kind: 1}, {To: 1, Kind: kinds}}, api.OK},
		{"rules without letters", [][]api.Rule{great, great}, nil, api.OK},
		{"the edges of letters", [][]api.Rule{great, great}, []api.Letter{
			{Time: 0, To: 0, Kind: 1, N: math.MinInt64},
			{Time: api.MaxItems, To: 1, Kind: kinds, N: math.MaxInt64},
		}, api.OK},
		{"a kind that nobody has a rule for", [][]api.Rule{{counts(1)}}, []api.Letter{{Kind: 2}}, api.OK},
		{"one kind of two actors", [][]api.Rule{{counts(7)}, {counts(7)}}, nil, api.OK},
		{"one letter twice", [][]api.Rule{{counts(7)}}, []api.Letter{{Kind: 7}, {Kind: 7}}, api.OK},
		{"a rule for each kind", rulesOf(1, kinds), nil, api.OK},
		{"as many actors as may be", rulesOf(api.MaxTasks, 1), []api.Letter{{To: api.MaxTasks - 1, Kind: 1}}, api.OK},
		{"as many letters as may be", rulesOf(1, 1), lettersOf(api.MaxTasks), api.OK},
		{"as much of all as may be", rulesOf(api.MaxTasks, kinds), lettersOf(api.MaxTasks), api.OK},
	})
}

func TestP17CheckErrArgOfLetters(t *testing.T) {
	rules := [][]api.Rule{{counts(1)}, {counts(1)}}
	right := api.Letter{Kind: 1}
	var cases []checkCase
	wrong := func(what string, l api.Letter) {
		cases = append(cases,
			checkCase{what, rules, []api.Letter{l}, api.ErrArg},
			checkCase{what + ", the first one", rules, []api.Letter{l, right, right}, api.ErrArg},
			checkCase{what + ", the last one", rules, []api.Letter{right, right, l}, api.ErrArg},
			checkCase{what + ", of actors without rules", [][]api.Rule{nil, nil}, []api.Letter{l}, api.ErrArg},
		)
	}
	for _, no := range []int{-1, api.MaxItems + 1, math.MinInt, math.MaxInt} {
		wrong("a time that is none", api.Letter{Time: no, Kind: 1})
	}
	for _, no := range []int{-1, 2, api.MaxTasks, math.MinInt, math.MaxInt} {
		wrong("an actor that is none", api.Letter{To: no, Kind: 1})
	}
	for _, no := range []int{-1, 0, kinds + 1, api.MaxTasks, math.MinInt, math.MaxInt} {
		wrong("a kind that is none", api.Letter{Kind: no})
	}
	cases = append(cases, checkCase{"a letter where there are no actors", nil, []api.Letter{right}, api.ErrArg})
	holdCases(t, cases)
}

func TestP17CheckErrArgOfRules(t *testing.T) {
	var cases []checkCase
	wrong := func(what string, r api.Rule) {
		cases = append(cases,
			checkCase{what, [][]api.Rule{{r}, nil}, nil, api.ErrArg},
			checkCase{what + ", the first one", [][]api.Rule{{r, counts(8), counts(9)}, {counts(1)}}, lettersOf(1), api.ErrArg},
			checkCase{what + ", the last one", [][]api.Rule{{counts(1)}, {counts(8), counts(9), r}}, lettersOf(1), api.ErrArg},
		)
	}
	for _, no := range []int{-1, 0, kinds + 1, math.MinInt, math.MaxInt} {
		wrong("a kind that is none", api.Rule{Kind: no})
		wrong("a kind that is none, and sends", api.Rule{Kind: no, Mod: 1, Send: 1, After: 1})
		wrong("a Send that is no kind", api.Rule{Kind: 1, Mod: 1, Send: no, After: 1})
	}
	for _, no := range []int64{-1, math.MinInt64} {
		wrong("a Mod below 0", api.Rule{Kind: 1, Mod: no})
		wrong("a Mod below 0, and sends", api.Rule{Kind: 1, Mod: no, Send: 1, After: 1})
	}
	for _, no := range []int{-1, 2, api.MaxTasks, math.MinInt, math.MaxInt} {
		wrong("a To that is no actor", api.Rule{Kind: 1, Mod: 1, Send: 1, To: no, After: 1})
	}
	for _, no := range []int{-1, 0, api.MaxOps + 1, math.MinInt, math.MaxInt} {
		wrong("an After that can't be", api.Rule{Kind: 1, Mod: 1, Send: 1, After: no})
	}
	for _, no := range []int{-1, 1, math.MinInt, math.MaxInt} {
		wrong("a Send without Mod", api.Rule{Kind: 1, Send: no})
		wrong("a To without Mod", api.Rule{Kind: 1, To: no})
		wrong("an After without Mod", api.Rule{Kind: 1, After: no})
	}
	wrong("all three without Mod", api.Rule{Kind: 1, Send: 1, To: 1, After: 1})
	holdCases(t, cases)
}

func TestP17CheckErrArgOfOneKindTwice(t *testing.T) {
	sends := api.Rule{Kind: 3, Mod: 1, Send: 1, After: 1}
	holdCases(t, []checkCase{
		{"a rule twice", [][]api.Rule{{counts(3), counts(3)}}, nil, api.ErrArg},
		{"two rules of one kind", [][]api.Rule{{counts(3), sends}}, nil, api.ErrArg},
		{"the first one and the last", [][]api.Rule{nil, {counts(3), counts(1), counts(2), sends}}, nil, api.ErrArg},
		{"the last kind", [][]api.Rule{{counts(kinds), counts(kinds)}}, nil, api.ErrArg},
		{"one more than there are kinds", [][]api.Rule{append(rulesOf(1, kinds)[0], counts(50))}, nil, api.ErrArg},
	})
}

func TestP17CheckErrLarge(t *testing.T) {
	holdCases(t, []checkCase{
		{"too many actors", rulesOf(api.MaxTasks+1, 1), nil, api.ErrLarge},
		{"too many actors without rules", rulesOf(api.MaxTasks+1, 0), nil, api.ErrLarge},
		{"too many actors, with what goes to the last one", append(rulesOf(api.MaxTasks, 1), []api.Rule{{Kind: 1, Mod: 1, Send: 1, To: api.MaxTasks, After: 1}}), []api.Letter{{To: api.MaxTasks, Kind: 1}}, api.ErrLarge},
		{"too many letters", rulesOf(1, 1), lettersOf(api.MaxTasks + 1), api.ErrLarge},
		{"too many letters, which come too late", rulesOf(1, 1), slices.Repeat([]api.Letter{{Time: api.MaxItems, Kind: 1}}, api.MaxTasks+1), api.ErrLarge},
		{"too many of both", rulesOf(api.MaxTasks+1, 1), lettersOf(api.MaxTasks + 1), api.ErrLarge},
	})
}

// Of too many rules of one actor two are of one kind, since there are fewer kinds: that is told first.
func TestP17CheckOrderOfErrors(t *testing.T) {
	wrong := [][]api.Rule{{{Kind: 1, After: 1}}}
	holdCases(t, []checkCase{
		{"wrong rule behind too many actors", slices.Concat(rulesOf(api.MaxTasks+1, 1), wrong), nil, api.ErrArg},
		{"wrong rule ahead of too many actors", slices.Concat(wrong, rulesOf(api.MaxTasks+1, 1)), nil, api.ErrArg},
		{"wrong rule and too many letters", wrong, lettersOf(api.MaxTasks + 1), api.ErrArg},
		{"wrong letter behind too many letters", rulesOf(1, 1), append(lettersOf(api.MaxTasks+1), api.Letter{}), api.ErrArg},
		{"wrong letter and too many actors", rulesOf(api.MaxTasks+1, 1), []api.Letter{{To: api.MaxTasks + 1, Kind: 1}}, api.ErrArg},
		{"letters where there are no actors, too many", nil, lettersOf(api.MaxTasks + 1), api.ErrArg},
		{"one kind twice behind too many actors", slices.Concat(rulesOf(api.MaxTasks+1, 1), [][]api.Rule{{counts(1), counts(1)}}), nil, api.ErrArg},
		{"too many rules", [][]api.Rule{slices.Repeat(rulesOf(1, kinds)[0], 3)}, nil, api.ErrArg},
	})
}
