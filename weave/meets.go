package weave

import (
	"slices"

	"lockstep/api"
	"lockstep/laid"
)

// meets: the other parts for which it matters when a part is done, ahead of them or behind. (Those that must be behind it are none of them, and those that must be ahead of it are over when it may be done.)
type meets struct {
	changers set // change a number that it reads
	readers  set // read the number that it changes
	rivals   set // change that number, too, and not as two Adds do
}

func (p *plan) meetsOf(i int) meets {
	var m meets
	own := &p.parts[i]
	for j := range p.parts {
		other := &p.parts[j]
		if i == j || own.behind.has(j) {
			continue
		}
		if other.changes() && p.reads(own.e, other.at) {
			m.changers |= one(j)
		}
		if own.changes() && p.reads(other.e, own.at) {
			m.readers |= one(j)
		}
		if own.changes() && other.changes() && own.at == other.at && (own.kind != api.Add || other.kind != api.Add) {
			m.rivals |= one(j)
		}
	}
	return m
}

func (own *part) changes() bool { return own.kind != api.If }

// reads: does the expression read the number that is there, among those that are changed?
func (p *plan) reads(e *laid.Expr, at int) bool {
	if e.Kind == api.Name && e.Place == p.changed[at] {
		return true
	}
	return slices.ContainsFunc(e.Kids, func(kid laid.Expr) bool { return p.reads(&kid, at) })
}
