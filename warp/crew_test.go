package warp

import (
	"slices"
	"testing"

	"lockstep/actor"
	"lockstep/api"
)

// round in which only these have their turns, in this order.
func (c *crew) round(readers ...int) {
	limit := min(c.certain()+c.window, c.end)
	var due []turn
	for _, i := range readers {
		c.readers[i].goOn(limit)
		due = append(due, turn{&c.readers[i], limit})
	}
	c.finish(due)
}

// state of a reader: its number, how much it has read, of how much.
type state struct {
	number    int64
	read, all int
}

func (c *crew) hold(t *testing.T, what string, i int, want state) {
	t.Helper()
	r := &c.readers[i]
	if got := (state{r.number, r.read, len(r.book)}); got != want {
		t.Errorf("%s: reader %d: %v, not %v", what, i, got, want)
	}
}

// holdCertain: so much is certain.
func (c *crew) holdCertain(t *testing.T, want int) {
	t.Helper()
	if got := c.certain(); got != want {
		t.Errorf("certain up to %d, not %d", got, want)
	}
}

// late: the second actor sends a letter to the first one, ahead of what that has to do by itself; and the first one tells the third one its numbers, which tells the fourth one.
func late() ([][]api.Rule, []api.Letter) {
	return [][]api.Rule{
		{{Kind: 1, Times: 10, Mod: 1, Send: 3, To: 2, After: 1}, {Kind: 2, Times: 10}},
		{{Kind: 1, Times: 1, Mod: 1, Send: 2, To: 0, After: 3}},
		{{Kind: 3, Times: 1, Mod: 1, Send: 4, To: 3, After: 1}},
		{{Kind: 4, Times: 1}},
	}, []api.Letter{{Time: 1, To: 0, Kind: 1, N: 1}, {Time: 5, To: 0, Kind: 1, N: 2}, {Time: 9, To: 0, Kind: 1, N: 3}, {Time: 0, To: 1, Kind: 1, N: 7}}
}

func TestP19AheadAndBack(t *testing.T) {
	rules, letters := late()
	c := newCrew(rules, letters, 20, api.MaxOps)
	c.round(0)
	c.hold(t, "the first goes on by itself", 0, state{123, 3, 3})
	c.hold(t, "what is sent has come", 2, state{0, 0, 3})
	c.round(2)
	c.hold(t, "what is sent for the time being is read", 2, state{1 + 12 + 123 + 0, 3, 3})
	c.hold(t, "and brings forth more", 3, state{0, 0, 3})
	c.round(3)
	c.hold(t, "and is read", 3, state{1 + 13 + 136, 3, 3})
	c.holdCertain(t, 0)
	c.round(1)
	c.hold(t, "the late letter is sent", 1, state{7, 1, 1})
	c.hold(t, "who was ahead of it is what it was", 0, state{1, 1, 4})
	c.hold(t, "what it sent since is taken back", 2, state{1, 1, 1})
	c.hold(t, "and what was sent for that", 3, state{1, 1, 1})
	c.holdCertain(t, 3)
	c.round(0)
	c.hold(t, "it goes on again", 0, state{1723, 4, 4})
	c.round(2)
	c.round(3)
	c.hold(t, "and so does all behind it", 3, state{1 + 173 + 1896, 3, 3})
	c.holdCertain(t, 20)
	if len(c.due()) > 0 {
		t.Error("there is something to do")
	}
}

// What one has sent in a round, and what comes to it late in the same one, are posted in any order.
func TestP19LateInTheSameRound(t *testing.T) {
	rules, letters := late()
	for _, order := range [][]int{{0, 1, 2, 3}, {1, 0, 3, 2}, {3, 2, 1, 0}} {
		c := newCrew(rules, letters, 20, api.MaxOps)
		c.round(order...)
		c.hold(t, "it is what it was", 0, state{1, 1, 4})
		c.hold(t, "what it sent is taken back", 2, state{0, 0, 1})
		c.round(order...)
		c.hold(t, "it goes on again", 0, state{1723, 4, 4})
		c.hold(t, "what it sends in its stead has come", 2, state{1, 1, 3})
		c.round(order...)
		c.round(order...)
		c.hold(t, "in the end", 3, state{1 + 173 + 1896, 3, 3})
	}
}

func TestP19WhoIsDue(t *testing.T) {
	rules, letters := late()
	who := func(c *crew) (l []int) {
		for _, d := range c.due() {
			l = append(l, d.self)
		}
		return l
	}
	for window, want := range map[int]state{1: {1, 1, 3}, 4: {1, 1, 3}, 5: {12, 2, 3}, 8: {12, 2, 3}, 9: {123, 3, 3}, api.MaxOps: {123, 3, 3}} {
		c := newCrew(rules, letters, 20, window)
		if got := who(c); !slices.Equal(got, []int{0, 1}) {
			t.Error(window, got)
		}
		for _, d := range c.due() {
			d.goOn(d.limit)
		}
		c.hold(t, "up to the window", 0, want)
	}
	c := newCrew(rules, letters[1:], 20, 4)
	if got := who(c); !slices.Equal(got, []int{1}) {
		t.Error("what is too far ahead is not begun:", got)
	}
	c.round(1)
	if got := who(c); !slices.Equal(got, []int{0}) {
		t.Error("when more is certain it is:", got)
	}
}

// dice gives numbers that are the same in every run of the tests.
type dice uint64

func (d *dice) below(n int) int {
	*d = *d*6364136223846793005 + 1442695040888963407
	return int(uint64(*d) >> 33 % uint64(n))
}

// crowd: actors that send to one another, at different speeds; whether they do hangs on what came to them ahead of it.
func (d *dice) crowd(actors, letters int) ([][]api.Rule, []api.Letter) {
	const kinds = 4
	rules, l := make([][]api.Rule, actors), make([]api.Letter, letters)
	for i := range rules {
		for kind := 1; kind <= kinds; kind++ {
			rules[i] = append(rules[i], api.Rule{Kind: kind, Times: int64(d.below(5) - 2), Plus: int64(d.below(5)), Mod: int64(1 + d.below(9)/7), Send: 1 + d.below(kinds), To: d.below(actors), After: 1 + d.below(5)})
		}
	}
	for i := range l {
		l[i] = api.Letter{Time: d.below(6), To: d.below(actors), Kind: 1 + d.below(kinds), N: int64(d.below(9))}
	}
	return rules, l
}

// some of those who are due, in any order.
func (d *dice) some(due []turn, all bool) []turn {
	for i := range due {
		j := i + d.below(len(due)-i)
		due[i], due[j] = due[j], due[i]
	}
	if all {
		return due
	}
	return due[:1+d.below(len(due))]
}

// watcher looks at what is done in the rounds.
type watcher struct {
	*testing.T
	*crew
	ahead, back, rounds int // how often a reader was ahead of what is certain, how often it went back, and how many rounds there were
}

// pages: of each reader what it has read.
func (w *watcher) pages() [][]entry {
	l := make([][]entry, len(w.readers))
	for i := range w.readers {
		r := &w.readers[i]
		l[i] = slices.Clone(r.book[:r.read])
	}
	return l
}

// look at what has become of what was read when so much was certain.
func (w *watcher) look(was [][]entry, sure int) {
	if w.certain() < sure {
		w.Fatal("certain up to", sure, "and then only to", w.certain())
	}
	for i, now := range w.pages() {
		same := 0
		for same < len(was[i]) && same < len(now) && was[i][same].mail == now[same].mail {
			same++
		}
		if same < len(was[i]) {
			w.back++
			if was[i][same].Time <= sure {
				w.Fatal("what was certain is undone:", was[i][same].Time, sure)
			}
		}
		if n := len(now); n > 0 && now[n-1].Time > w.certain() {
			w.ahead++
		}
	}
}

// unread letters of all.
func (w *watcher) unread() int {
	n := 0
	for i := range w.readers {
		n += len(w.readers[i].book) - w.readers[i].read
	}
	return n
}

// run till nothing is to be done, and hold that nobody goes too far.
func (w *watcher) run(d *dice, all bool, handedIn int) {
	for due := w.due(); len(due) > 0; due = w.due() {
		if w.unread() > handedIn {
			w.Fatal("of", handedIn, "letters there are", w.unread())
		}
		sure := w.certain()
		due = d.some(due, all)
		for _, t := range due {
			t.goOn(t.limit)
			if last := t.book[t.read-1].Time; last > sure+w.window || last > w.end {
				w.Fatal("too far ahead:", last, sure)
			}
		}
		was := w.pages()
		w.finish(due)
		w.look(was, sure)
		if w.rounds++; all && w.certain() <= sure && len(w.due()) > 0 {
			w.Fatal("nothing has become certain:", sure)
		}
	}
}

// holdLog: what stands in the books is what came, and nothing that was taken back.
func (w *watcher) holdLog(want []api.Letter) {
	w.Helper()
	got := make([][]api.Letter, len(w.readers))
	for i := range w.readers {
		for _, e := range w.readers[i].book {
			got[i] = append(got[i], e.Letter)
		}
	}
	for _, l := range want {
		if len(got[l.To]) == 0 || got[l.To][0] != l {
			w.Fatal("this letter came, and does not stand there:", l)
		}
		got[l.To] = got[l.To][1:]
	}
	for i, more := range got {
		if len(more) > 0 {
			w.Fatal("these did not come, and stand there:", i, more)
		}
	}
}

// Whoever has a turn in a round, and in which order, comes to the same in the end.
func TestP19InAnyOrder(t *testing.T) {
	const end = 30
	d := dice(1)
	for _, all := range []bool{true, false} {
		ahead, back, came := 0, 0, 0
		for n := range 600 {
			rules, letters := d.crowd(1+d.below(6), d.below(12))
			want, log, _ := actor.Run(rules, letters, end, 1)
			w := &watcher{T: t, crew: newCrew(rules, letters, end, 1+d.below(1+n%end))}
			w.run(&d, all, len(letters))
			if numbers := w.tellNumbers(); !slices.Equal(numbers, want) || w.many() != len(log) {
				t.Fatal(n, numbers, want, w.many(), len(log))
			}
			w.holdLog(log)
			if all && w.rounds > end+1 {
				t.Fatal("more rounds than times:", w.rounds)
			}
			ahead, back, came = ahead+w.ahead, back+w.back, came+len(log)
		}
		if ahead < 1000 || back < 1000 || came < 10000 {
			t.Error("hardly ever ahead of time, or back:", ahead, back, came)
		}
	}
}
