package weave

import (
	"cmp"
	"slices"

	"lockstep/laid"
)

// twin: two parts that change one number in one way, with the same ones behind them. When both have found what they write, it is the same which of them writes what, or is over. If they are alike, it is the same from the beginning on.
type twin struct {
	first, second int
	alike         bool
}

// allTwins in the order in which states are sorted by them.
func (p *plan) allTwins() []twin {
	var l []twin
	for i := range p.parts {
		for j := i + 1; j < len(p.parts); j++ {
			a, b := &p.parts[i], &p.parts[j]
			if a.changes() && a.kind == b.kind && a.at == b.at && a.behind == b.behind {
				l = append(l, twin{i, j, a.before == b.before && same(a.e, b.e)})
			}
		}
	}
	return l
}

func same(a, b *laid.Expr) bool {
	return a.Kind == b.Kind && a.Place == b.Place && a.N == b.N &&
		slices.EqualFunc(a.Kids, b.Kids, func(x, y laid.Expr) bool { return same(&x, &y) })
}

// sort what twins have to do, so that states between which there is no difference are one.
func (p *plan) sort(s *state) {
	for _, t := range p.twins {
		if (t.alike || s.begun(t.first) && s.begun(t.second)) && s.compare(t.first, t.second) > 0 {
			s.swap(t.first, t.second)
		}
	}
}

func (s *state) begun(i int) bool { return (s.found | s.over).has(i) }

// compare what is left of two parts: first come those that are not begun, then those that have found what they write, by that.
func (s *state) compare(i, j int) int {
	return cmp.Or(cmp.Compare(s.rank(i), s.rank(j)), cmp.Compare(s.finds[i], s.finds[j]))
}

func (s *state) rank(i int) int {
	switch {
	case s.over.has(i):
		return 2
	case s.found.has(i):
		return 1
	}
	return 0
}

// swap what is left of two parts.
func (s *state) swap(i, j int) {
	s.finds[i], s.finds[j] = s.finds[j], s.finds[i]
	s.over = s.over.swapped(i, j)
	s.found = s.found.swapped(i, j)
}
