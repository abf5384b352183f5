package weave

import "lockstep/api"

// use of a number: the parts that have to do with it.
type use struct {
	changers set
	assigns  set // those of the changers that are Assigns
	readers  set
}

func (p *plan) allUses() []use {
	l := make([]use, len(p.changed))
	for i := range p.parts {
		own := &p.parts[i]
		for at := range l {
			if own.reads.has(at) {
				l[at].readers |= one(i)
			}
		}
		if own.changes() {
			l[own.at].changers |= one(i)
		}
		if own.kind == api.Assign {
			l[own.at].assigns |= one(i)
		}
	}
	return l
}

// guessFrom so many Assigns to a number on it pays to say ahead of time whether it matters: where fewer write over one another there are more outlines to look at than states are saved.
const guessFrom = 3

func (p *plan) toGuess() set {
	var l set
	for at := range p.uses {
		if p.uses[at].assigns.size() >= guessFrom {
			l |= one(at)
		}
	}
	return l
}

// meets: the other parts for which it matters when a part is done, ahead of them or behind. Those that must be behind it are none of them, and those that must be ahead of it are over when it may be done.
type meets struct {
	changers set // change a number that it reads
	readers  set // read the number that it changes
	rivals   set // change that number, too, and not as two Adds do
}

func (p *plan) meetsOf(i int) meets {
	var m meets
	own := &p.parts[i]
	for at := range p.uses {
		if own.reads.has(at) {
			m.changers |= p.uses[at].changers
		}
	}
	switch own.kind {
	case api.Assign:
		m.readers, m.rivals = p.uses[own.at].readers, p.uses[own.at].changers
	case api.Add:
		m.readers, m.rivals = p.uses[own.at].readers, p.uses[own.at].assigns
	}
	none := one(i) | own.behind
	return meets{m.changers &^ none, m.readers &^ none, m.rivals &^ none}
}
