// Package laid: the programs of package lang, laid down for doing them.
package laid

import (
	"slices"
	"strings"

	"lockstep/api"
)

// Stat of a program that is laid down: a name is a place among all names, and what takes no step, whatever the variables are, is left out, the blocks of a Par too: else Repeats of nothing, within one another, might never end.
type Stat struct {
	Kind, Place int
	E           Expr
	Times       int64
	Blocks      [][]Stat
}

// Expr of such a statement.
type Expr struct {
	Kind, Place int
	N           int64
	Kids        []Expr
}

// Names that stand in start or in the program, each once, in the order of their bytes.
func Names(l []api.Stat, start []api.Var) []string {
	var names []string
	for _, v := range start {
		names = append(names, v.Name)
	}
	names = addNames(names, l)
	slices.Sort(names)
	return slices.Compact(names)
}

func addNames(names []string, l []api.Stat) []string {
	for i := range l {
		s := &l[i]
		if s.Name != "" {
			names = append(names, s.Name)
		}
		names = addNamesOf(names, &s.E)
		for _, block := range s.Blocks {
			names = addNames(names, block)
		}
	}
	return names
}

func addNamesOf(names []string, e *api.Expr) []string {
	if e.Kind == api.Name {
		names = append(names, e.Name)
	}
	for i := range e.Kids {
		names = addNamesOf(names, &e.Kids[i])
	}
	return names
}

// placeOf a name that stands among the names; where there is no name the place says nothing.
func placeOf(names []string, name string) int {
	place, _ := slices.BinarySearch(names, name)
	return place
}

// Numbers of the names at the start.
func Numbers(names []string, start []api.Var) []int64 {
	numbers := make([]int64, len(names))
	for _, v := range start {
		numbers[placeOf(names, v.Name)] = v.N
	}
	return numbers
}

// Tell the numbers of the names. Each name is a copy: what was handed in is not kept.
func Tell(names []string, numbers []int64) []api.Var {
	l := make([]api.Var, len(names))
	for i, name := range names {
		l[i] = api.Var{Name: strings.Clone(name), N: numbers[i]}
	}
	return l
}

// Down lays a program down, which must be one, and of the right size.
func Down(l []api.Stat, names []string) []Stat {
	var laid []Stat
	for i := range l {
		s := &l[i]
		to := Stat{Kind: s.Kind, Place: placeOf(names, s.Name), E: layExpr(&s.E, names), Times: s.N}
		for _, block := range s.Blocks {
			if inner := Down(block, names); len(inner) > 0 || s.Kind != api.Par {
				to.Blocks = append(to.Blocks, inner)
			}
		}
		if !to.idle() {
			laid = append(laid, to)
		}
	}
	return laid
}

func layExpr(e *api.Expr, names []string) Expr {
	to := Expr{Kind: e.Kind, Place: placeOf(names, e.Name), N: e.N}
	for i := range e.Kids {
		to.Kids = append(to.Kids, layExpr(&e.Kids[i], names))
	}
	return to
}

// idle: does it never take a step? Its blocks have none in them that never does.
func (s *Stat) idle() bool {
	switch s.Kind {
	case api.Repeat:
		return s.Times == 0 || len(s.Blocks[0]) == 0
	case api.Par:
		return len(s.Blocks) == 0
	}
	return false
}

// Value of an expression, if the variable at each place has that number. Who does the program knows where the numbers are.
func (e *Expr) Value(number func(place int) int64) int64 {
	switch e.Kind {
	case api.Number:
		return e.N
	case api.Name:
		return number(e.Place)
	}
	first, second := e.Kids[0].Value(number), e.Kids[1].Value(number)
	switch e.Kind {
	case api.Sum:
		return first + second
	case api.Less:
		return first - second
	}
	return first * second
}
