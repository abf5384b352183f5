package warp

import (
	"slices"

	"lockstep/api"
)

// entry of a reader's book: a letter; and if it has been read what the number was ahead of it, and what was sent for it.
type entry struct {
	*mail
	before int64
	sent   *mail
}

// reader: an actor that goes on by itself. While it does so all of it is its own: nobody else looks at it.
type reader struct {
	self, end int
	rules     map[int]api.Rule
	number    int64
	book      []entry // what has come to it so far, in the order in which it is to be read
	read      int     // so much of the book has been read
	out       []slip  // what it has sent, and taken back, that is not posted yet
}

// byKind: the rules, each to be found by its kind.
func byKind(own []api.Rule) map[int]api.Rule {
	rules := make(map[int]api.Rule, len(own))
	for _, r := range own {
		rules[r.Kind] = r
	}
	return rules
}

// next: the time of what it has not read; if there is nothing, one behind the end.
func (r *reader) next() int {
	if r.read < len(r.book) {
		return r.book[r.read].Time
	}
	return r.end + 1
}

// goOn up to a time, with what has come so far.
func (r *reader) goOn(limit int) {
	for r.next() <= limit {
		r.readOne()
	}
}

// readOne letter, and follow the rule for it, if there is one.
func (r *reader) readOne() {
	e := &r.book[r.read]
	e.before = r.number
	if rule, ok := r.rules[e.Kind]; ok {
		r.number = rule.Times*r.number + rule.Plus + e.N
		if rule.Mod > 0 && r.number%rule.Mod == 0 {
			r.send(e, api.Letter{Time: e.Time + rule.After, To: rule.To, Kind: rule.Send, N: r.number})
		}
	}
	r.read++
}

// send a letter for the entry that is being read. One that would come behind the end never comes.
func (r *reader) send(e *entry, l api.Letter) {
	if l.Time <= r.end {
		e.sent = &mail{Letter: l, sentAt: e.Time, by: r.self, nth: r.read}
		r.out = append(r.out, slip{mail: e.sent})
	}
}

// takeIn a letter, or put away one that is taken back. What stands behind it in the book was read too early.
func (r *reader) takeIn(s slip) {
	at, _ := slices.BinarySearchFunc(r.book, s.mail, func(e entry, m *mail) int { return byOrder(e.mail, m) })
	r.goBack(at)
	if s.back {
		r.book = slices.Delete(r.book, at, at+1)
	} else {
		r.book = slices.Insert(r.book, at, entry{mail: s.mail})
	}
}

// goBack to what it was when it had read so much; what it sent since is taken back.
func (r *reader) goBack(read int) {
	for r.read > read {
		r.read--
		e := &r.book[r.read]
		r.number = e.before
		if e.sent != nil {
			r.out = append(r.out, slip{e.sent, true})
			e.sent = nil
		}
	}
}
