package warp_test

import (
	"math"
	"slices"
	"testing"

	"lockstep/actor"
	"lockstep/api"
	"lockstep/warp"
)

// windows from the least one to the greatest.
var windows = []int{1, 2, 3, 7, 40, api.MaxOps}

// everyWay: each window with each number of workers.
func everyWay(do func(window, workers int)) {
	for _, window := range windows {
		for workers := 1; workers <= api.MaxWorkers; workers++ {
			do(window, workers)
		}
	}
}

// someWays: what takes long is not done in all of them.
func someWays(do func(window, workers int)) {
	for _, window := range []int{1, 20, api.MaxOps} {
		for _, workers := range []int{1, 3, api.MaxWorkers} {
			do(window, workers)
		}
	}
}

// hold: Run answers this error, or these numbers, in all ways in which it is to be tried.
func hold(t *testing.T, what string, ways func(func(window, workers int)), rules [][]api.Rule, letters []api.Letter, end int, want []int64, wantErr api.Errno) {
	t.Helper()
	ways(func(window, workers int) {
		t.Helper()
		numbers, err := warp.Run(rules, letters, end, window, workers)
		if err != wantErr {
			t.Fatalf("%s: window %d, %d workers: error %d, not %d", what, window, workers, err, wantErr)
		}
		if !slices.Equal(numbers, want) {
			t.Fatalf("%s: window %d, %d workers: %v, not %v", what, window, workers, numbers, want)
		}
	})
}

// holdActor: Run answers what actor.Run has in the end. It answers how many letters came, and whether they were too many.
func holdActor(t *testing.T, what string, ways func(func(window, workers int)), rules [][]api.Rule, letters []api.Letter, end int) (int, api.Errno) {
	t.Helper()
	want, log, err := actor.Run(rules, letters, end, 1)
	hold(t, what, ways, rules, letters, end, want, err)
	return len(log), err
}

// letter at a time, to an actor, of a kind, with a number.
func letter(time, to, kind int, n int64) api.Letter {
	return api.Letter{Time: time, To: to, Kind: kind, N: n}
}

// sends: a rule that makes the number the letter's, and sends it on.
func sends(kind, send, to, after int) api.Rule {
	return api.Rule{Kind: kind, Mod: 1, Send: send, To: to, After: after}
}

// folds: a rule whose number tells in which order letters came.
func folds(kind int) api.Rule { return api.Rule{Kind: kind, Times: 10} }

type runCase struct {
	what    string
	rules   [][]api.Rule
	letters []api.Letter
	end     int
	numbers []int64
}

func holdRuns(t *testing.T, cases []runCase) {
	t.Helper()
	for _, c := range cases {
		hold(t, c.what, everyWay, c.rules, c.letters, c.end, c.numbers, api.OK)
		if numbers, _, err := actor.Run(c.rules, c.letters, c.end, 1); err != api.OK || !slices.Equal(numbers, c.numbers) {
			t.Errorf("%s: actor.Run says otherwise: %v, %d", c.what, numbers, err)
		}
	}
}

func TestP19RunSmall(t *testing.T) {
	example := [][]api.Rule{{{Kind: 1, Times: 1, Plus: 0, Mod: 1, Send: 1, To: 0, After: 2}}}
	holdRuns(t, []runCase{
		{"the document's example", example, []api.Letter{letter(0, 0, 1, 1)}, 5, []int64{4}},
		{"nothing", nil, nil, 5, nil},
		{"actors alone", [][]api.Rule{{counts(1)}, nil}, nil, 5, []int64{0, 0}},
		{"one letter", [][]api.Rule{{counts(1)}, {counts(1)}}, []api.Letter{letter(3, 1, 1, 7)}, 5, []int64{0, 7}},
		{"a letter of another kind is lost", [][]api.Rule{{counts(1)}}, []api.Letter{letter(2, 0, 1, 3), letter(3, 0, 2, 7)}, 5, []int64{3}},
		{"a letter to one without rules", [][]api.Rule{{counts(1)}, nil}, []api.Letter{letter(3, 1, 1, 7)}, 5, []int64{0, 0}},
		{"a letter that is lost on its way", [][]api.Rule{{sends(1, 9, 1, 1)}, {counts(1)}}, []api.Letter{letter(0, 0, 1, 7)}, 5, []int64{7, 0}},
		{"from one to another, and back", [][]api.Rule{{sends(1, 2, 1, 3), counts(4)}, {sends(2, 4, 0, 1)}}, []api.Letter{letter(1, 0, 1, 7)}, 9, []int64{14, 7}},
		{"all of a rule", [][]api.Rule{{{Kind: 1, Times: -3, Plus: 4}}}, []api.Letter{letter(0, 0, 1, 2), letter(1, 0, 1, 5)}, 3, []int64{-9}},
		{"running over", [][]api.Rule{{{Kind: 1, Times: 2, Plus: 1}}}, []api.Letter{letter(0, 0, 1, math.MaxInt64), letter(1, 0, 1, 0)}, 3, []int64{1}},
	})
}

func TestP19RunMod(t *testing.T) {
	mod := func(mod int64) [][]api.Rule {
		return [][]api.Rule{{{Kind: 1, Times: 1, Mod: mod, Send: 2, To: 1, After: 1}}, {{Kind: 2, Times: 100}}}
	}
	come := []api.Letter{letter(0, 0, 1, 1), letter(1, 0, 1, 1), letter(2, 0, 1, 1), letter(3, 0, 1, 3)}
	holdRuns(t, []runCase{
		{"each number", mod(1), come, 9, []int64{6, 1020306}},
		{"each second one", mod(2), come, 9, []int64{6, 206}},
		{"each third one", mod(3), come, 9, []int64{6, 306}},
		{"none", mod(7), come, 9, []int64{6, 0}},
		{"0 is a multiple", mod(7), []api.Letter{letter(0, 0, 1, 0), letter(1, 0, 1, -7)}, 9, []int64{-7, -7}},
		{"the least number", mod(math.MaxInt64), []api.Letter{letter(0, 0, 1, math.MinInt64), letter(1, 0, 1, 1)}, 9, []int64{-math.MaxInt64, -math.MaxInt64}},
	})
}

func TestP19RunEnd(t *testing.T) {
	relay := [][]api.Rule{{sends(1, 2, 1, 3)}, {counts(2)}}
	far := [][]api.Rule{{sends(1, 2, 1, api.MaxOps)}, {counts(2)}}
	self := [][]api.Rule{{{Kind: 1, Times: 1, Mod: 1, Send: 1, To: 0, After: 1}}}
	at := func(time int) []api.Letter { return []api.Letter{letter(time, 0, 1, 7)} }
	holdRuns(t, []runCase{
		{"a letter at the end", relay, at(5), 5, []int64{7, 0}},
		{"a letter behind the end", relay, at(6), 5, []int64{0, 0}},
		{"a letter far behind the end", relay, at(api.MaxItems), api.MaxOps, []int64{0, 0}},
		{"what is sent comes at the end", relay, at(1), 4, []int64{7, 7}},
		{"what is sent would come behind the end", relay, at(1), 3, []int64{7, 0}},
		{"an end of 0", relay, append(at(0), at(1)...), 0, []int64{7, 0}},
		{"an end of 0, and what is sent to itself", self, at(0), 0, []int64{7}},
		{"the greatest end", self, at(api.MaxOps - 1), api.MaxOps, []int64{14}},
		{"from the first time to the last", far, at(0), api.MaxOps, []int64{7, 7}},
		{"from the second time on it is too far", far, at(1), api.MaxOps, []int64{7, 0}},
		{"times at which nothing comes", relay, []api.Letter{letter(900, 0, 1, 7), letter(2, 1, 2, 1)}, 999, []int64{7, 8}},
	})
}

// Whose digits stand behind one another in the number came behind one another.
func TestP19RunOrderOfOneTime(t *testing.T) {
	reader := []api.Rule{folds(9)}
	to := func(kind, after int) api.Rule { return sends(kind, 9, 0, after) }
	both := []api.Rule{to(1, 1), to(2, 2)}
	come := func(time int, digits ...int64) (l []api.Letter) {
		for _, d := range digits {
			l = append(l, letter(time, 0, 9, d))
		}
		return l
	}
	join := func(l ...[]api.Letter) []api.Letter { return slices.Concat(l...) }
	at := func(time, to, kind int, n int64) []api.Letter { return []api.Letter{letter(time, to, kind, n)} }
	holdRuns(t, []runCase{
		{"as they were handed in", [][]api.Rule{reader}, come(3, 2, 1, 3), 3, []int64{213}},
		{"by time, however they were handed in", [][]api.Rule{reader}, join(come(5, 1), come(2, 2), come(5, 3), come(0, 4)), 5, []int64{4213}},
		{"what was handed in comes ahead of what was sent", [][]api.Rule{reader, both}, join(at(0, 1, 1, 5), come(1, 6, 7)), 1, []int64{675, 5}},
		{"by the time at which it was sent, not by whom", [][]api.Rule{reader, both, both}, join(at(1, 1, 1, 5), at(0, 2, 2, 6)), 2, []int64{65, 5, 6}},
		{"of one time by who sent it", [][]api.Rule{reader, both, both, both}, join(at(0, 3, 1, 7), at(0, 1, 1, 5), at(0, 2, 1, 6)), 1, []int64{567, 5, 6, 7}},
		{"of one by the order in which it did", [][]api.Rule{reader, both}, join(at(0, 1, 1, 7), at(0, 1, 1, 5), at(0, 1, 1, 6)), 1, []int64{756, 6}},
		{"of one, at two times", [][]api.Rule{reader, both}, join(at(1, 1, 1, 5), at(0, 1, 2, 6)), 2, []int64{65, 5}},
		{"one that sends to itself stands in the order too", [][]api.Rule{{folds(9), sends(1, 9, 0, 1)}, both, both}, join(at(0, 2, 1, 7), at(0, 1, 1, 6), at(0, 0, 1, 5)), 1, []int64{5567, 6, 7}},
		{"all of it at one time", [][]api.Rule{reader, both, both}, join(
			at(1, 2, 1, 8), at(1, 1, 1, 6), at(0, 2, 2, 5), at(0, 1, 2, 3), come(2, 1), at(1, 1, 1, 7), at(0, 1, 2, 4), come(2, 2),
		), 2, []int64{12345678, 7, 8}},
	})
}

// What comes late changes what was done ahead: the digits of a reader that has much to do by itself, and what others were sent for it.
func TestP19RunLateLetters(t *testing.T) {
	var ahead []api.Letter
	for time := range 9 {
		ahead = append(ahead, letter(2*time, 0, 1, int64(time)))
	}
	tells := api.Rule{Kind: 1, Times: 10, Mod: 1, Send: 2, To: 1, After: 1}
	last := []api.Rule{{Kind: 2, Times: 1}}
	way := [][]api.Rule{{tells, folds(9)}, last, {sends(3, 4, 3, 1)}, {sends(4, 9, 0, 2)}}
	sum := func(numbers ...int64) (s int64) {
		for _, n := range numbers {
			s += n
		}
		return s
	}
	holdRuns(t, []runCase{
		{"nothing late", way, ahead, 99, []int64{12345678, sum(0, 1, 12, 123, 1234, 12345, 123456, 1234567, 12345678), 0, 0}},
		{"one late letter", way, append(slices.Clone(ahead), letter(0, 2, 3, 9)), 99, []int64{192345678, sum(0, 1, 192, 1923, 19234, 192345, 1923456, 19234567, 192345678), 9, 9}},
		{"two late letters", way, append(slices.Clone(ahead), letter(8, 2, 3, 8), letter(0, 2, 3, 9)), 99, []int64{1923458678, sum(0, 1, 192, 1923, 19234, 192345, 19234586, 192345867, 1923458678), 8, 8}},
	})
	odd := [][]api.Rule{{{Kind: 1, Times: 1, Mod: 2, Send: 2, To: 1, After: 1}, counts(9)}, last, {sends(3, 9, 0, 3)}}
	holdRuns(t, []runCase{
		{"none is late, and all are even", odd, []api.Letter{letter(0, 0, 1, 2), letter(5, 0, 1, 2), letter(9, 0, 1, 2)}, 99, []int64{6, 12, 0}},
		{"from the late one on none is even", odd, []api.Letter{letter(0, 0, 1, 2), letter(5, 0, 1, 2), letter(9, 0, 1, 2), letter(0, 2, 3, 1)}, 99, []int64{7, 2, 1}},
		{"a second late one makes them even again", odd, []api.Letter{letter(0, 0, 1, 2), letter(5, 0, 1, 2), letter(9, 0, 1, 2), letter(0, 2, 3, 1), letter(4, 2, 3, 1)}, 99, []int64{8, 10, 1}},
	})
}

// chains: so many letters, each of which is sent on from time to time.
func chains(n int) ([][]api.Rule, []api.Letter) {
	rules := make([][]api.Rule, n)
	var letters []api.Letter
	for i := range rules {
		rules[i] = []api.Rule{{Kind: 1, Times: 3, Plus: int64(i), Mod: 1, Send: 1, To: (i*7 + 3) % n, After: 1}}
		letters = append(letters, letter(0, i, 1, int64(i)))
	}
	return rules, letters
}

func TestP19RunErrLarge(t *testing.T) {
	const end = api.MaxOps - 1
	rules, letters := chains(api.MaxItems / api.MaxOps)
	if many, err := holdActor(t, "as many letters as may come", someWays, rules, letters, end); err != api.OK || many != api.MaxItems {
		t.Error(many, err)
	}
	late := append(slices.Clone(letters), letter(end+1, 0, 1, 1), letter(api.MaxItems, 0, 1, 1))
	if many, err := holdActor(t, "what does not come is not counted", someWays, rules, late, end); err != api.OK || many != api.MaxItems {
		t.Error(many, err)
	}
	large := func(what string, rules [][]api.Rule, letters []api.Letter, end int) {
		t.Helper()
		hold(t, what, someWays, rules, letters, end, nil, api.ErrLarge)
	}
	large("as many, to a later end", rules, letters, end+1)
	large("one more, at the end", rules, append(slices.Clone(letters), letter(end, 0, 1, 1)), end)
	large("one more, which is lost", rules, append(slices.Clone(letters), letter(0, 0, 2, 1)), end)
	rules, letters = chains(api.MaxTasks)
	large("twice as many", rules, letters, api.MaxOps)
	if many, err := holdActor(t, "twice as many, to half the end", someWays, rules, letters, api.MaxOps/2-1); err != api.OK || many != api.MaxItems {
		t.Error(many, err)
	}
}

// What was sent for the time being, and taken back, is not counted: here all letters to the first actor go on till the end as long as its number is even, and none if a late letter has made it odd ahead of them.
func TestP19RunErrLargeOnlyOfWhatComes(t *testing.T) {
	goesOn := api.Rule{Kind: 1, Times: 1, Mod: 2, Send: 1, To: 0, After: 1}
	rules := [][]api.Rule{{goesOn, counts(9)}, {sends(3, 4, 2, 1)}, {sends(4, 9, 0, 1)}}
	early, late := letter(2, 0, 9, 1), letter(0, 1, 3, 1)
	even := slices.Repeat([]api.Letter{letter(3, 0, 1, 2)}, api.MaxTasks-2)
	odd := 2*int64(len(even)) + 1
	hold(t, "even", someWays, rules, even, api.MaxOps, nil, api.ErrLarge)
	hold(t, "odd", someWays, rules, append(slices.Clone(even), early), api.MaxOps, []int64{odd, 0, 0}, api.OK)
	hold(t, "odd by the late letter", someWays, rules, append(slices.Clone(even), late), api.MaxOps, []int64{odd, 1, 1}, api.OK)
	hold(t, "even by the late letter", someWays, rules, append(slices.Clone(even), early, late), api.MaxOps, nil, api.ErrLarge)
}

// dice gives numbers that are the same in every run of the tests.
type dice uint64

func (d *dice) below(n int) int {
	*d = *d*6364136223846793005 + 1442695040888963407
	return int(uint64(*d) >> 33 % uint64(n))
}

// rule for a kind, of so many actors and so many kinds.
func (d *dice) rule(kind, actors, kinds int) api.Rule {
	r := api.Rule{Kind: kind, Times: int64(d.below(7) - 3), Plus: int64(d.below(9) - 4)}
	if d.below(8) == 0 {
		r.Times = math.MaxInt64 - int64(d.below(3))
	}
	if d.below(9) > 0 {
		r.Mod, r.Send, r.To, r.After = int64(1+d.below(3)), 1+d.below(kinds), d.below(actors), 1+d.below(4)
	}
	return r
}

// rules of so many actors, for most of so many kinds.
func (d *dice) rules(actors, kinds int) [][]api.Rule {
	all := make([][]api.Rule, actors)
	for i := range all {
		for kind := kinds; kind >= 1; kind-- {
			if d.below(9) > 0 {
				all[i] = append(all[i], d.rule(kind, actors, kinds))
			}
		}
	}
	return all
}

// letters, so many, to so many actors, at so many times.
func (d *dice) letters(n, actors, kinds, times int) []api.Letter {
	var l []api.Letter
	for range n {
		l = append(l, letter(d.below(times), d.below(actors), 1+d.below(kinds), int64(d.below(21)-10)))
	}
	return l
}

func TestP19RunIsActorRun(t *testing.T) {
	d := dice(1)
	more, fewer := 0, 0
	for range 300 {
		actors, kinds, end := 1+d.below(6), 1+d.below(4), d.below(30)
		letters := d.letters(d.below(10), actors, kinds, 6)
		many, _ := holdActor(t, "thrown", everyWay, d.rules(actors, kinds), letters, end)
		if many > len(letters) {
			more++
		} else {
			fewer++
		}
	}
	if more < 50 || fewer < 50 {
		t.Error("the dice throw too few of one kind:", more, fewer)
	}
	crowded := 0
	for range 20 {
		many, _ := holdActor(t, "thrown, many letters to few", everyWay, d.rules(3, 3), d.letters(api.MaxTasks, 3, 3, 8), 60)
		crowded = max(crowded, many)
	}
	if crowded < 4*api.MaxTasks {
		t.Error("the dice throw too few letters:", crowded)
	}
	for range 10 {
		holdActor(t, "thrown, many", everyWay, d.rules(api.MaxTasks, 5), d.letters(api.MaxTasks, api.MaxTasks, 5, 40), 120)
	}
}

// wild: each letter goes on and on, those of one kind faster than those of another, so that some are far ahead and are met by others.
func (d *dice) wild(actors, kinds, letters int) ([][]api.Rule, []api.Letter) {
	rules := make([][]api.Rule, actors)
	for i := range rules {
		for kind := 1; kind <= kinds; kind++ {
			rules[i] = append(rules[i], api.Rule{Kind: kind, Times: 3, Plus: 1, Mod: 1, Send: kind, To: d.below(actors), After: 1 + kind%7})
		}
	}
	return rules, d.letters(letters, actors, kinds, 9)
}

func TestP19RunFarAhead(t *testing.T) {
	d := dice(2)
	for _, actors := range []int{2, 3, 10, 50} {
		rules, letters := d.wild(actors, 10, 30)
		if many, err := holdActor(t, "wild", everyWay, rules, letters, 200); err != api.OK || many < 1000 {
			t.Error(many, err)
		}
	}
}

func TestP19RunAtTheLimits(t *testing.T) {
	d := dice(3)
	whole, large := 0, 0
	for _, end := range []int{0, api.MaxOps} {
		for _, actors := range []int{1, 2, api.MaxTasks} {
			many, _ := holdActor(t, "as great as may be", someWays, d.rules(actors, kinds), d.letters(api.MaxTasks, actors, kinds, 2*end+1), end)
			whole += many
			rules, letters := d.wild(actors, kinds, api.MaxTasks)
			many, err := holdActor(t, "as great as may be, and all goes on", someWays, rules, letters, end)
			whole += many
			for _, own := range rules {
				for i := range own {
					own[i].After = 1
				}
			}
			if _, err = holdActor(t, "as great as may be, and all goes on slowly", someWays, rules, letters, end); err == api.ErrLarge {
				large++
			}
		}
	}
	if whole < api.MaxItems || large == 0 {
		t.Error("the dice throw too little:", whole, large)
	}
}
