package lang

import (
	"slices"
	"strings"

	"lockstep/api"
)

// stat of a program that is laid down for doing it: a name is a place among all names, and what takes no step, whatever the variables are, is left out: else Repeats of nothing, within one another, might never end.
type stat struct {
	kind, place int
	e           expr
	times       int64
	blocks      [][]stat
}

type expr struct {
	kind, place int
	n           int64
	kids        []expr
}

// allNames that stand in start or in the program, each once, in the order of their bytes.
func allNames(l []api.Stat, start []api.Var) []string {
	var names []string
	for _, v := range start {
		names = append(names, v.Name)
	}
	names = addNames(names, l)
	slices.Sort(names)
	return slices.Compact(names)
}

func addNames(names []string, l []api.Stat) []string {
	for i := range l {
		s := &l[i]
		if s.Name != "" {
			names = append(names, s.Name)
		}
		names = addNamesOf(names, &s.E)
		for _, block := range s.Blocks {
			names = addNames(names, block)
		}
	}
	return names
}

func addNamesOf(names []string, e *api.Expr) []string {
	if e.Kind == api.Name {
		names = append(names, e.Name)
	}
	for i := range e.Kids {
		names = addNamesOf(names, &e.Kids[i])
	}
	return names
}

// placeOf a name that stands among the names; where there is no name the place says nothing.
func placeOf(names []string, name string) int {
	place, _ := slices.BinarySearch(names, name)
	return place
}

// numbersOf the names at the start.
func numbersOf(names []string, start []api.Var) []int64 {
	numbers := make([]int64, len(names))
	for _, v := range start {
		numbers[placeOf(names, v.Name)] = v.N
	}
	return numbers
}

// tell the numbers of the names. Each name is a copy: what was handed in is not kept.
func tell(names []string, numbers []int64) []api.Var {
	l := make([]api.Var, len(names))
	for i, name := range names {
		l[i] = api.Var{Name: strings.Clone(name), N: numbers[i]}
	}
	return l
}

func lay(l []api.Stat, names []string) []stat {
	var laid []stat
	for i := range l {
		s := &l[i]
		to := stat{kind: s.Kind, place: placeOf(names, s.Name), e: layExpr(&s.E, names), times: s.N}
		for _, block := range s.Blocks {
			to.blocks = append(to.blocks, lay(block, names))
		}
		if !to.idle() {
			laid = append(laid, to)
		}
	}
	return laid
}

func layExpr(e *api.Expr, names []string) expr {
	to := expr{kind: e.Kind, place: placeOf(names, e.Name), n: e.N}
	for i := range e.Kids {
		to.kids = append(to.kids, layExpr(&e.Kids[i], names))
	}
	return to
}

// idle: does it never take a step? Its blocks have none in them that never does.
func (s *stat) idle() bool {
	switch s.kind {
	case api.Repeat:
		return s.times == 0 || len(s.blocks[0]) == 0
	case api.Par:
		return !slices.ContainsFunc(s.blocks, func(block []stat) bool { return len(block) > 0 })
	}
	return false
}
