package actor_test

import (
	"cmp"
	"container/heap"
	"math"
	"slices"
	"testing"

	"lockstep/actor"
	"lockstep/api"
)

// event: a letter, and when and by whom it was sent, and as which of all; one that was handed in was sent ahead of all times.
type event struct {
	api.Letter
	sent, by, nth int
}

// events on their way; the first one is the one that comes next.
type events []event

func (l events) Len() int      { return len(l) }
func (l events) Swap(i, j int) { l[i], l[j] = l[j], l[i] }
func (l *events) Push(x any)   { *l = append(*l, x.(event)) }
func (l events) Less(i, j int) bool {
	a, b := l[i], l[j]
	return cmp.Or(cmp.Compare(a.Time, b.Time), cmp.Compare(a.To, b.To), cmp.Compare(a.sent, b.sent), cmp.Compare(a.by, b.by), cmp.Compare(a.nth, b.nth)) < 0
}
func (l *events) Pop() any {
	last := (*l)[len(*l)-1]
	*l = (*l)[:len(*l)-1]
	return last
}

// meaning: what comes of one letter behind the other, each looked for among all that are on their way.
func meaning(rules [][]api.Rule, letters []api.Letter, end int) (numbers []int64, log []api.Letter, err api.Errno) {
	numbers = make([]int64, len(rules))
	way := &events{}
	for i, l := range letters {
		heap.Push(way, event{l, -1, -1, i})
	}
	for n := len(letters); way.Len() > 0; n++ {
		e := heap.Pop(way).(event)
		if e.Time > end {
			break
		}
		if len(log) == api.MaxItems {
			return nil, nil, api.ErrLarge
		}
		log = append(log, e.Letter)
		at := slices.IndexFunc(rules[e.To], func(r api.Rule) bool { return r.Kind == e.Kind })
		if at < 0 {
			continue
		}
		r := rules[e.To][at]
		number := numbers[e.To]*r.Times + r.Plus + e.N
		numbers[e.To] = number
		if r.Mod != 0 && number/r.Mod*r.Mod == number {
			heap.Push(way, event{api.Letter{Time: e.Time + r.After, To: r.To, Kind: r.Send, N: number}, e.Time, e.To, n})
		}
	}
	return numbers, log, api.OK
}

// hold: Run answers this, however many work.
func hold(t *testing.T, what string, rules [][]api.Rule, letters []api.Letter, end int, wantNumbers []int64, wantLog []api.Letter) {
	t.Helper()
	for workers := 1; workers <= api.MaxWorkers; workers++ {
		numbers, log, err := actor.Run(rules, letters, end, workers)
		if err != api.OK {
			t.Fatalf("%s: %d workers: error %d", what, workers, err)
		}
		if !slices.Equal(numbers, wantNumbers) {
			t.Fatalf("%s: %d workers: numbers %v, not %v", what, workers, numbers, wantNumbers)
		}
		if !slices.Equal(log, wantLog) {
			t.Fatalf("%s: %d workers: log %v, not %v", what, workers, log, wantLog)
		}
	}
}

// holdError: Run answers this error, however many work, and nothing beside it.
func holdError(t *testing.T, what string, rules [][]api.Rule, letters []api.Letter, end int, want api.Errno) {
	t.Helper()
	for workers := 1; workers <= api.MaxWorkers; workers++ {
		if numbers, log, err := actor.Run(rules, letters, end, workers); err != want || numbers != nil || log != nil {
			t.Fatalf("%s: %d workers: error %d, not %d; %d numbers, %d letters", what, workers, err, want, len(numbers), len(log))
		}
	}
}

// holdMeaning answers what came, and whether it was too much.
func holdMeaning(t *testing.T, what string, rules [][]api.Rule, letters []api.Letter, end int) ([]int64, []api.Letter, api.Errno) {
	t.Helper()
	numbers, log, err := meaning(rules, letters, end)
	if err == api.OK {
		hold(t, what, rules, letters, end, numbers, log)
	} else {
		holdError(t, what, rules, letters, end, err)
	}
	return numbers, log, err
}

// letter at a time, to an actor, of a kind, with a number.
func letter(time, to, kind int, n int64) api.Letter {
	return api.Letter{Time: time, To: to, Kind: kind, N: n}
}

// sends: a rule that makes the number the letter's, and sends it on.
func sends(kind, send, to, after int) api.Rule {
	return api.Rule{Kind: kind, Mod: 1, Send: send, To: to, After: after}
}

// folds: a rule whose number tells in which order letters came.
func folds(kind int) api.Rule { return api.Rule{Kind: kind, Times: 10} }

type runCase struct {
	what    string
	rules   [][]api.Rule
	letters []api.Letter
	end     int
	numbers []int64
	log     []api.Letter
}

func holdRuns(t *testing.T, cases []runCase) {
	t.Helper()
	for _, c := range cases {
		hold(t, c.what, c.rules, c.letters, c.end, c.numbers, c.log)
		if numbers, log, err := meaning(c.rules, c.letters, c.end); err != api.OK || !slices.Equal(numbers, c.numbers) || !slices.Equal(log, c.log) {
			t.Errorf("%s: the meaning is said otherwise: %v, %v, %d", c.what, numbers, log, err)
		}
	}
}

func TestP18RunSmall(t *testing.T) {
	example := [][]api.Rule{{{Kind: 1, Times: 1, Plus: 0, Mod: 1, Send: 1, To: 0, After: 2}}}
	holdRuns(t, []runCase{
		{"the document's example", example, []api.Letter{letter(0, 0, 1, 1)}, 5, []int64{4}, []api.Letter{letter(0, 0, 1, 1), letter(2, 0, 1, 1), letter(4, 0, 1, 2)}},
		{"nothing", nil, nil, 5, nil, nil},
		{"actors alone", [][]api.Rule{{counts(1)}, nil}, nil, 5, []int64{0, 0}, nil},
		{"one letter", [][]api.Rule{{counts(1)}, {counts(1)}}, []api.Letter{letter(3, 1, 1, 7)}, 5, []int64{0, 7}, []api.Letter{letter(3, 1, 1, 7)}},
		{"a letter of another kind is lost, but it came", [][]api.Rule{{counts(1)}}, []api.Letter{letter(3, 0, 2, 7)}, 5, []int64{0}, []api.Letter{letter(3, 0, 2, 7)}},
		{"a letter to one without rules", [][]api.Rule{{counts(1)}, nil}, []api.Letter{letter(3, 1, 1, 7)}, 5, []int64{0, 0}, []api.Letter{letter(3, 1, 1, 7)}},
		{"a letter that is lost on its way", [][]api.Rule{{sends(1, 9, 1, 1)}, {counts(1)}}, []api.Letter{letter(0, 0, 1, 7)}, 5, []int64{7, 0}, []api.Letter{letter(0, 0, 1, 7), letter(1, 1, 9, 7)}},
		{"from one to another, and back", [][]api.Rule{{sends(1, 2, 1, 3), counts(4)}, {sends(2, 4, 0, 1)}}, []api.Letter{letter(1, 0, 1, 7)}, 9, []int64{14, 7}, []api.Letter{letter(1, 0, 1, 7), letter(4, 1, 2, 7), letter(5, 0, 4, 7)}},
		{"a kind between its rules", [][]api.Rule{{counts(1), {Kind: 100, Times: 3}, {Kind: 7, Plus: 5}}}, []api.Letter{letter(0, 0, 1, 2), letter(1, 0, 100, 1), letter(2, 0, 1, 4)}, 3, []int64{11}, []api.Letter{letter(0, 0, 1, 2), letter(1, 0, 100, 1), letter(2, 0, 1, 4)}},
	})
}

func TestP18RunRules(t *testing.T) {
	one := func(what string, r api.Rule, n []int64, number int64) runCase {
		c := runCase{what: what, rules: [][]api.Rule{{r}}, end: 5, numbers: []int64{number}}
		r.Kind = 1
		c.rules[0][0] = r
		for i, x := range n {
			c.letters = append(c.letters, letter(i, 0, 1, x))
		}
		c.log = c.letters
		return c
	}
	holdRuns(t, []runCase{
		one("the letter's number", api.Rule{}, []int64{4, 3}, 3),
		one("Times what it was", api.Rule{Times: 5}, []int64{4, 3}, 23),
		one("Times below 0", api.Rule{Times: -2}, []int64{4, 3}, -5),
		one("Times is of what it was, not of what comes to it", api.Rule{Times: 5, Plus: 2}, []int64{4, 3}, 35),
		one("Plus", api.Rule{Plus: 2}, []int64{4, 3}, 5),
		one("Plus below 0", api.Rule{Times: 1, Plus: -9}, []int64{4, 3}, -11),
		one("running over by Times", api.Rule{Times: 2}, []int64{math.MaxInt64, 3}, 1),
		one("running over by Times, far", api.Rule{Times: math.MaxInt64}, []int64{math.MaxInt64, 0}, 1),
		one("running over by Plus", api.Rule{Plus: 1}, []int64{math.MaxInt64}, math.MinInt64),
		one("running over by N", api.Rule{Times: 1}, []int64{math.MinInt64, -1}, math.MaxInt64),
	})
}

func TestP18RunMod(t *testing.T) {
	passes := func(what string, mod, n int64, sent bool) runCase {
		c := runCase{
			what: what, end: 5, numbers: []int64{n, 0},
			rules:   [][]api.Rule{{{Kind: 1, Mod: mod, Send: 2, To: 1, After: 3}}, nil},
			letters: []api.Letter{letter(1, 0, 1, n)}, log: []api.Letter{letter(1, 0, 1, n)},
		}
		if sent {
			c.log = append(c.log, letter(4, 1, 2, n))
		}
		return c
	}
	holdRuns(t, []runCase{
		passes("a multiple", 3, 6, true),
		passes("itself", 3, 3, true),
		passes("none", 3, 7, false),
		passes("below it", 3, 2, false),
		passes("0 is a multiple", 3, 0, true),
		passes("a multiple below 0", 3, -6, true),
		passes("none below 0", 3, -7, false),
		passes("of 1 all are", 1, -5, true),
		passes("the least number", 2, math.MinInt64, true),
		passes("the least number, of 3", 3, math.MinInt64, false),
		passes("the greatest Mod", math.MaxInt64, math.MaxInt64, true),
		passes("the greatest Mod, below 0", math.MaxInt64, -math.MaxInt64, true),
		passes("the greatest Mod, and the least number", math.MaxInt64, math.MinInt64, false),
		{"Mod is asked of the number that came of it", [][]api.Rule{{{Kind: 1, Times: 2, Plus: 1, Mod: 3, Send: 2, After: 1}}}, []api.Letter{letter(0, 0, 1, 3), letter(1, 0, 1, 2), letter(2, 0, 1, 1)}, 9, []int64{24}, []api.Letter{letter(0, 0, 1, 3), letter(1, 0, 1, 2), letter(2, 0, 1, 1), letter(3, 0, 2, 24)}},
		{"without Mod nothing is sent", [][]api.Rule{{counts(1)}}, []api.Letter{letter(0, 0, 1, 0)}, 9, []int64{0}, []api.Letter{letter(0, 0, 1, 0)}},
	})
}

func TestP18RunTheEnd(t *testing.T) {
	relay := [][]api.Rule{{sends(1, 2, 1, 3)}, {counts(2)}}
	self := [][]api.Rule{{sends(1, 1, 0, 1)}}
	far := [][]api.Rule{{sends(1, 2, 0, api.MaxOps)}}
	at := func(time int) []api.Letter { return []api.Letter{letter(time, 0, 1, 7)} }
	on := letter(4, 1, 2, 7)
	holdRuns(t, []runCase{
		{"a letter at the end comes", relay, at(5), 5, []int64{7, 0}, at(5)},
		{"a letter behind the end does not", relay, at(6), 5, []int64{0, 0}, nil},
		{"a letter far behind the end", relay, at(api.MaxItems), api.MaxOps, []int64{0, 0}, nil},
		{"what is sent comes at the end", relay, at(1), 4, []int64{7, 7}, append(at(1), on)},
		{"what is sent would come behind the end", relay, at(1), 3, []int64{7, 0}, at(1)},
		{"an end of 0", relay, append(at(0), at(1)...), 0, []int64{7, 0}, at(0)},
		{"an end of 0, and what is sent to itself", self, at(0), 0, []int64{7}, at(0)},
		{"the greatest end", self, at(api.MaxOps - 1), api.MaxOps, []int64{7}, append(at(api.MaxOps-1), at(api.MaxOps)...)},
		{"from the first time to the last", far, at(0), api.MaxOps, []int64{7}, append(at(0), letter(api.MaxOps, 0, 2, 7))},
		{"from the second time on it is too far", far, at(1), api.MaxOps, []int64{7}, at(1)},
		{"times at which nothing comes", relay, []api.Letter{letter(900, 0, 1, 7), letter(2, 1, 2, 1)}, 999, []int64{7, 8}, []api.Letter{letter(2, 1, 2, 1), letter(900, 0, 1, 7), letter(903, 1, 2, 7)}},
	})
}

// Whose digits stand behind one another in the number came behind one another.
func TestP18RunOrderOfOneTime(t *testing.T) {
	reader := []api.Rule{folds(9)}
	to := func(kind, after int) api.Rule { return sends(kind, 9, 0, after) }
	both := []api.Rule{to(1, 1), to(2, 2)}
	come := func(time int, digits ...int64) (l []api.Letter) {
		for _, d := range digits {
			l = append(l, letter(time, 0, 9, d))
		}
		return l
	}
	join := func(l ...[]api.Letter) []api.Letter { return slices.Concat(l...) }
	at := func(time, to, kind int, n int64) []api.Letter { return []api.Letter{letter(time, to, kind, n)} }
	holdRuns(t, []runCase{
		{"as they were handed in", [][]api.Rule{reader}, come(3, 2, 1, 3), 3, []int64{213}, come(3, 2, 1, 3)},
		{"by time, however they were handed in", [][]api.Rule{reader}, join(come(5, 1), come(2, 2), come(5, 3), come(0, 4)), 5, []int64{4213}, join(come(0, 4), come(2, 2), come(5, 1, 3))},
		{"what was handed in comes ahead of what was sent", [][]api.Rule{reader, both}, join(at(0, 1, 1, 5), come(1, 6, 7)), 1, []int64{675, 5}, join(at(0, 1, 1, 5), come(1, 6, 7, 5))},
		{"by the time at which it was sent, not by whom", [][]api.Rule{reader, both, both}, join(at(1, 1, 1, 5), at(0, 2, 2, 6)), 2, []int64{65, 5, 6}, join(at(0, 2, 2, 6), at(1, 1, 1, 5), come(2, 6, 5))},
		{"of one time by who sent it", [][]api.Rule{reader, both, both, both}, join(at(0, 3, 1, 7), at(0, 1, 1, 5), at(0, 2, 1, 6)), 1, []int64{567, 5, 6, 7}, join(at(0, 1, 1, 5), at(0, 2, 1, 6), at(0, 3, 1, 7), come(1, 5, 6, 7))},
		{"of one by the order in which it did", [][]api.Rule{reader, both}, join(at(0, 1, 1, 7), at(0, 1, 1, 5), at(0, 1, 1, 6)), 1, []int64{756, 6}, join(at(0, 1, 1, 7), at(0, 1, 1, 5), at(0, 1, 1, 6), come(1, 7, 5, 6))},
		{"of one, at two times", [][]api.Rule{reader, both}, join(at(1, 1, 1, 5), at(0, 1, 2, 6)), 2, []int64{65, 5}, join(at(0, 1, 2, 6), at(1, 1, 1, 5), come(2, 6, 5))},
		{"one that sends to itself stands in the order too", [][]api.Rule{{folds(9), sends(1, 9, 0, 1)}, both, both}, join(at(0, 2, 1, 7), at(0, 1, 1, 6), at(0, 0, 1, 5)), 1, []int64{5567, 6, 7}, join(at(0, 0, 1, 5), at(0, 1, 1, 6), at(0, 2, 1, 7), come(1, 5, 6, 7))},
		{"all of it at one time", [][]api.Rule{reader, both, both}, join(
			at(1, 2, 1, 8), at(1, 1, 1, 6), at(0, 2, 2, 5), at(0, 1, 2, 3), come(2, 1), at(1, 1, 1, 7), at(0, 1, 2, 4), come(2, 2),
		), 2, []int64{12345678, 7, 8}, join(
			at(0, 1, 2, 3), at(0, 1, 2, 4), at(0, 2, 2, 5), at(1, 1, 1, 6), at(1, 1, 1, 7), at(1, 2, 1, 8), come(2, 1, 2, 3, 4, 5, 6, 7, 8),
		)},
	})
}

func TestP18RunOrderOfTheLog(t *testing.T) {
	rules := [][]api.Rule{{folds(1)}, {folds(1)}, {folds(1)}}
	holdRuns(t, []runCase{
		{"of one time by actor", rules, []api.Letter{letter(1, 2, 1, 1), letter(1, 0, 1, 2), letter(1, 1, 1, 3)}, 1, []int64{2, 3, 1}, []api.Letter{letter(1, 0, 1, 2), letter(1, 1, 1, 3), letter(1, 2, 1, 1)}},
		{"of one actor as they came", rules, []api.Letter{letter(1, 2, 1, 1), letter(1, 0, 1, 2), letter(1, 2, 1, 0), letter(1, 0, 1, 1)}, 1, []int64{21, 0, 10}, []api.Letter{letter(1, 0, 1, 2), letter(1, 0, 1, 1), letter(1, 2, 1, 1), letter(1, 2, 1, 0)}},
		{"by time ahead of all else", rules, []api.Letter{letter(2, 0, 1, 1), letter(1, 2, 1, 2), letter(0, 1, 1, 3)}, 2, []int64{1, 3, 2}, []api.Letter{letter(0, 1, 1, 3), letter(1, 2, 1, 2), letter(2, 0, 1, 1)}},
		{"lost ones stand where they came", rules, []api.Letter{letter(1, 1, 1, 1), letter(1, 1, 7, 2), letter(1, 1, 1, 3), letter(1, 0, 7, 4)}, 1, []int64{0, 13, 0}, []api.Letter{letter(1, 0, 7, 4), letter(1, 1, 1, 1), letter(1, 1, 7, 2), letter(1, 1, 1, 3)}},
		{"equal ones stand as often as they came", rules, []api.Letter{letter(1, 1, 1, 1), letter(1, 1, 1, 1)}, 1, []int64{0, 11, 0}, []api.Letter{letter(1, 1, 1, 1), letter(1, 1, 1, 1)}},
	})
}

// chains: so many letters, each of which is sent on from time to time.
func chains(n int) ([][]api.Rule, []api.Letter) {
	rules := make([][]api.Rule, n)
	var letters []api.Letter
	for i := range rules {
		rules[i] = []api.Rule{{Kind: 1, Times: 3, Plus: int64(i), Mod: 1, Send: 1, To: (i*7 + 3) % n, After: 1}}
		letters = append(letters, letter(0, i, 1, int64(i)))
	}
	return rules, letters
}

func TestP18RunErrLarge(t *testing.T) {
	const end = api.MaxOps - 1
	rules, letters := chains(api.MaxItems / api.MaxOps)
	if _, log, err := holdMeaning(t, "as many letters as may come", rules, letters, end); err != api.OK || len(log) != api.MaxItems {
		t.Error(len(log), err)
	}
	late := append(slices.Clone(letters), letter(end+1, 0, 1, 1), letter(api.MaxItems, 0, 1, 1))
	if _, log, err := holdMeaning(t, "what does not come is not counted", rules, late, end); err != api.OK || len(log) != api.MaxItems {
		t.Error(len(log), err)
	}
	holdError(t, "as many, to a later end", rules, letters, end+1, api.ErrLarge)
	holdError(t, "one more, at the end", rules, append(slices.Clone(letters), letter(end, 0, 1, 1)), end, api.ErrLarge)
	holdError(t, "one more, which is lost", rules, append(slices.Clone(letters), letter(0, 0, 2, 1)), end, api.ErrLarge)
	holdError(t, "one more, which is lost at the end", rules, append(slices.Clone(letters), letter(end, 0, 2, 1)), end, api.ErrLarge)
	rules, letters = chains(api.MaxTasks)
	holdError(t, "twice as many", rules, letters, api.MaxOps, api.ErrLarge)
	if _, log, err := holdMeaning(t, "twice as many, to half the end", rules, letters, api.MaxOps/2-1); err != api.OK || len(log) != api.MaxItems {
		t.Error(len(log), err)
	}
}

func TestP18RunErrArgOfEndAndWorkers(t *testing.T) {
	rules, letters := chains(api.MaxTasks)
	no := func(end, workers int, want api.Errno, rules [][]api.Rule, letters []api.Letter) {
		t.Helper()
		if numbers, log, err := actor.Run(rules, letters, end, workers); err != want || numbers != nil || log != nil {
			t.Error(end, workers, err, numbers, log)
		}
	}
	for _, end := range []int{math.MinInt, -1, api.MaxOps + 1, api.MaxItems, math.MaxInt} {
		for _, workers := range []int{0, 1, api.MaxWorkers} {
			no(end, workers, api.ErrArg, rules, letters)
			no(end, workers, api.ErrArg, nil, nil)
		}
		no(end, 1, api.ErrLarge, rulesOf(api.MaxTasks+1, 0), nil)
	}
	for _, workers := range []int{math.MinInt, -1, 0, api.MaxWorkers + 1, math.MaxInt} {
		for _, end := range []int{0, 5, api.MaxOps} {
			no(end, workers, api.ErrArg, rules, letters)
			no(end, workers, api.ErrArg, nil, nil)
		}
		no(5, workers, api.ErrLarge, rulesOf(1, 1), lettersOf(api.MaxTasks+1))
	}
}

// dice gives numbers that are the same in every run of the tests.
type dice uint64

func (d *dice) below(n int) int {
	*d = *d*6364136223846793005 + 1442695040888963407
	return int(uint64(*d) >> 33 % uint64(n))
}

// rule for a kind, of so many actors and so many kinds.
func (d *dice) rule(kind, actors, kinds int) api.Rule {
	r := api.Rule{Kind: kind, Times: int64(d.below(7) - 3), Plus: int64(d.below(9) - 4)}
	if d.below(8) == 0 {
		r.Times = math.MaxInt64 - int64(d.below(3))
	}
	if d.below(5) > 0 {
		r.Mod, r.Send, r.To, r.After = int64(1+d.below(3)), 1+d.below(kinds), d.below(actors), 1+d.below(4)
	}
	return r
}

// rules of so many actors, for most of so many kinds.
func (d *dice) rules(actors, kinds int) [][]api.Rule {
	all := make([][]api.Rule, actors)
	for i := range all {
		for kind := kinds; kind >= 1; kind-- {
			if d.below(6) > 0 {
				all[i] = append(all[i], d.rule(kind, actors, kinds))
			}
		}
	}
	return all
}

// letters, so many, to so many actors, at so many times.
func (d *dice) letters(n, actors, kinds, times int) []api.Letter {
	var l []api.Letter
	for range n {
		l = append(l, letter(d.below(times), d.below(actors), 1+d.below(kinds), int64(d.below(21)-10)))
	}
	return l
}

func TestP18RunIsTheMeaning(t *testing.T) {
	d := dice(1)
	more, fewer := 0, 0
	for range 300 {
		actors, kinds, end := 1+d.below(6), 1+d.below(4), d.below(30)
		letters := d.letters(d.below(10), actors, kinds, 6)
		_, log, _ := holdMeaning(t, "thrown", d.rules(actors, kinds), letters, end)
		if len(log) > len(letters) {
			more++
		} else {
			fewer++
		}
	}
	if more < 50 || fewer < 50 {
		t.Error("the dice throw too few of one kind:", more, fewer)
	}
	crowded := 0
	for range 20 {
		_, log, _ := holdMeaning(t, "thrown, many letters to few", d.rules(3, 3), d.letters(api.MaxTasks, 3, 3, 8), 60)
		crowded = max(crowded, len(log))
	}
	if crowded < 4*api.MaxTasks {
		t.Error("the dice throw too few letters:", crowded)
	}
	for range 10 {
		holdMeaning(t, "thrown, many", d.rules(api.MaxTasks, 5), d.letters(api.MaxTasks, api.MaxTasks, 5, 40), 120)
	}
}

func TestP18RunAtTheLimits(t *testing.T) {
	d := dice(2)
	whole, large := 0, 0
	for _, end := range []int{0, api.MaxOps / 2, api.MaxOps} {
		for _, actors := range []int{1, 2, api.MaxTasks} {
			all := d.rules(actors, kinds)
			_, log, err := holdMeaning(t, "as great as may be", all, d.letters(api.MaxTasks, actors, kinds, 2*end+1), end)
			whole += len(log)
			for _, own := range all {
				for i, r := range own {
					own[i] = sends(r.Kind, r.Kind, (r.Kind*7+i)%actors, 1)
				}
			}
			if _, _, err = holdMeaning(t, "as great as may be, and all goes on", all, d.letters(api.MaxTasks, actors, kinds, 2), end); err == api.ErrLarge {
				large++
			}
		}
	}
	if whole < 1000 || large == 0 {
		t.Error("the dice throw too little:", whole, large)
	}
}
