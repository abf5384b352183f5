package lang

import "lockstep/api"

// room that is left for statements and expressions. What takes it stops as soon as there is none: what is small in memory may be greater than can be gone through.
type room int

func tooLarge(l []api.Stat) bool {
	left := room(api.MaxOps)
	return !left.takeAll(l, 1)
}

// takeAll: is there room for the statements, which are so deep?
func (left *room) takeAll(l []api.Stat, depth int) bool {
	for i := range l {
		s := &l[i]
		if !left.takeOne(depth) || !isNothing(&s.E) && !left.takeExpr(&s.E, depth+1) {
			return false
		}
		for _, block := range s.Blocks {
			if !left.takeAll(block, depth+1) {
				return false
			}
		}
	}
	return true
}

func (left *room) takeExpr(e *api.Expr, depth int) bool {
	if !left.takeOne(depth) {
		return false
	}
	for i := range e.Kids {
		if !left.takeExpr(&e.Kids[i], depth+1) {
			return false
		}
	}
	return true
}

func (left *room) takeOne(depth int) bool {
	*left--
	return *left >= 0 && depth <= maxDepth
}
