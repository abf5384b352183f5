package weave

import (
	"slices"

	"lockstep/api"
	"lockstep/laid"
)

// states, each once.
type states map[state]struct{}

// byAge: the states of each age. It goes on from those of one age when all younger ones are done with: then each of them is known, and gone on from just once, however often it was come to.
type byAge [2*maxParts + 1]states

// ends: all that the numbers may be in the end, each once, sorted.
func (p *plan) ends() []numbers {
	var known byAge
	for age := range known {
		known[age] = states{}
	}
	p.begin(&known)
	last := 2 * len(p.parts)
	for age := range last {
		for s := range known[age] {
			p.goOn(&known, &s)
		}
		known[age] = nil
	}
	var l []numbers
	for s := range known[last] {
		l = append(l, s.numbers)
	}
	slices.SortFunc(l, func(a, b numbers) int { return slices.Compare(a[:], b[:]) })
	return l
}

// goOn: to all states that may be next.
func (p *plan) goOn(known *byAge, s *state) {
	ways := p.waysFrom(s.outline)
	for i := range ways {
		to := *s
		if p.take(&to, &ways[i]) {
			p.keep(known, &to)
		}
	}
}

// keep a state. Where there is but one way on it goes on first: the states between need not be kept.
func (p *plan) keep(known *byAge, s *state) {
	for ways := p.waysFrom(s.outline); len(ways) == 1; ways = p.waysFrom(s.outline) {
		if !p.take(s, &ways[0]) {
			return
		}
	}
	p.sort(s)
	known[s.age()][*s] = struct{}{}
}

func (p *plan) tell(names []string, ends []numbers) [][]api.Var {
	l := make([][]api.Var, len(ends))
	for i := range ends {
		all := slices.Clone(p.start)
		for at, place := range p.changed {
			all[place] = ends[i][at]
		}
		l[i] = laid.Tell(names, all)
	}
	return l
}
