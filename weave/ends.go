package weave

import (
	"maps"
	"slices"

	"lockstep/api"
	"lockstep/laid"
)

// ends: all that the numbers may be in the end, each once, sorted. It goes on from all states at a time by one part each: those that are the same by then are one from there on.
func (p *plan) ends() []numbers {
	known := map[numbers]struct{}{}
	now := map[state]struct{}{}
	p.put(now, p.first())
	for len(now) > 0 {
		next := map[state]struct{}{}
		for s := range now {
			if s.over == p.all {
				known[s.numbers] = struct{}{}
				continue
			}
			p.goOnAll(next, &s)
		}
		now = next
	}
	return slices.SortedFunc(maps.Keys(known), func(a, b numbers) int { return slices.Compare(a[:], b[:]) })
}

// goOnAll: with each part with which it may go on.
func (p *plan) goOnAll(next map[state]struct{}, s *state) {
	for i := range p.parts {
		if p.ready(s, i) {
			to := *s
			p.goOn(&to, i)
			p.put(next, to)
		}
	}
}

// put a state among others, when all has been done in it for which it does not matter when.
func (p *plan) put(l map[state]struct{}, s state) {
	for p.goOnAlone(&s) {
	}
	p.sort(&s)
	l[s] = struct{}{}
}

// goOnAlone with one part, if there is one for which it does not matter when.
func (p *plan) goOnAlone(s *state) bool {
	for i := range p.parts {
		if p.ready(s, i) && p.alone(s, i) {
			p.goOn(s, i)
			return true
		}
	}
	return false
}

func (p *plan) tell(names []string, ends []numbers) [][]api.Var {
	l := make([][]api.Var, len(ends))
	for i := range ends {
		all := slices.Clone(p.start)
		for at, place := range p.changed {
			all[place] = ends[i][at]
		}
		l[i] = laid.Tell(names, all)
	}
	return l
}
