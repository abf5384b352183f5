package weave

import (
	"slices"

	"lockstep/laid"
)

// twin: two parts that change one number in one way, with the same ones behind them. When both have found what they write, it is the same which of them writes what, or is over. If they are alike, it is the same from the beginning on.
type twin struct {
	first, second int
	alike         bool
}

// allTwins in the order in which states are sorted by them.
func (p *plan) allTwins() []twin {
	var l []twin
	for i := range p.parts {
		for j := i + 1; j < len(p.parts); j++ {
			a, b := &p.parts[i], &p.parts[j]
			if a.changes() && a.kind == b.kind && a.at == b.at && a.behind == b.behind {
				l = append(l, twin{i, j, a.before == b.before && same(a.e, b.e)})
			}
		}
	}
	return l
}

func same(a, b *laid.Expr) bool {
	return a.Kind == b.Kind && a.Place == b.Place && a.N == b.N &&
		slices.EqualFunc(a.Kids, b.Kids, func(x, y laid.Expr) bool { return same(&x, &y) })
}

// sort what twins have to do, so that states between which there is no difference are one.
func (p *plan) sort(s *state) {
	for _, t := range p.twins {
		if (t.alike || s.begun(t.first) && s.begun(t.second)) && s.less(t.second, t.first) {
			s.swap(t.first, t.second)
		}
	}
}
