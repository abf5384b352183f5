package weave_test

import (
	"fmt"
	"maps"
	"slices"
	"strconv"

	"lockstep/api"
)

// item of a program in the doing: a statement that is not begun, the blocks of a Par, or a number that was found and is not written yet.
type item struct {
	stat   api.Stat
	text   string // of the statement
	blocks [][]item
	found  bool
	n      int64
}

// moment: what is left to do, and what the variables are.
type moment struct {
	left []item
	vars map[string]int64
}

// items of statements. A Repeat is its block so many times; a Par of nothing is nothing.
func items(l []api.Stat) []item {
	var to []item
	for _, s := range l {
		switch s.Kind {
		case api.Repeat:
			block := items(s.Blocks[0])
			for range s.N * int64(min(1, len(block))) {
				to = append(to, block...)
			}
		case api.Par:
			var blocks [][]item
			for _, block := range s.Blocks {
				blocks = append(blocks, items(block))
			}
			to = append(to, inPar(blocks)...)
		default:
			to = append(to, item{stat: s, text: textOf(list(s))})
		}
	}
	return to
}

// inPar: the blocks that are left of a Par; nothing, if none is.
func inPar(blocks [][]item) []item {
	blocks = slices.DeleteFunc(slices.Clone(blocks), func(block []item) bool { return len(block) == 0 })
	if len(blocks) == 0 {
		return nil
	}
	return []item{{blocks: blocks}}
}

// next: all that there may be when one thing has happened.
func next(m moment) []moment {
	if len(m.left) == 0 {
		return nil
	}
	first, rest := m.left[0], m.left[1:]
	ahead := func(l []item) []moment { return []moment{{slices.Concat(l, rest), m.vars}} }
	switch s := first.stat; {
	case len(first.blocks) > 0:
		return nextOfPar(first.blocks, rest, m.vars)
	case first.found:
		return []moment{{rest, written(m.vars, first)}}
	case s.Kind == api.If && meaning(s.E, m.vars) > 0:
		return ahead(items(s.Blocks[0]))
	case s.Kind == api.If && len(s.Blocks) > 1:
		return ahead(items(s.Blocks[1]))
	case s.Kind == api.If:
		return ahead(nil)
	}
	first.found, first.n = true, meaning(first.stat.E, m.vars)
	return ahead([]item{first})
}

// nextOfPar: one of its blocks goes on; what is behind it waits until none is left.
func nextOfPar(blocks [][]item, rest []item, vars map[string]int64) []moment {
	var l []moment
	for i, block := range blocks {
		for _, to := range next(moment{block, vars}) {
			then := slices.Clone(blocks)
			then[i] = to.left
			l = append(l, moment{slices.Concat(inPar(then), rest), to.vars})
		}
	}
	return l
}

func written(vars map[string]int64, i item) map[string]int64 {
	vars = maps.Clone(vars)
	if i.stat.Kind == api.Assign {
		vars[i.stat.Name] = i.n
	} else {
		vars[i.stat.Name] += i.n
	}
	return vars
}

func meaning(e api.Expr, vars map[string]int64) int64 {
	switch e.Kind {
	case api.Number:
		return e.N
	case api.Name:
		return vars[e.Name]
	case api.Sum:
		return meaning(e.Kids[0], vars) + meaning(e.Kids[1], vars)
	case api.Less:
		return meaning(e.Kids[0], vars) - meaning(e.Kids[1], vars)
	}
	return meaning(e.Kids[0], vars) * meaning(e.Kids[1], vars)
}

// key of a moment: two that have the same one are the same.
func (m *moment) key(names []string) string {
	to := appendKey(nil, m.left)
	for _, text := range names {
		to = append(strconv.AppendInt(to, m.vars[text], 36), ',')
	}
	return string(to)
}

func appendKey(to []byte, l []item) []byte {
	for _, i := range l {
		to = append(to, i.text...)
		if i.found {
			to = strconv.AppendInt(append(to, '!'), i.n, 36)
		}
		for _, block := range i.blocks {
			to = append(appendKey(append(to, '['), block), ']')
		}
		to = append(to, ';')
	}
	return to
}

// byWords: all outcomes, as the document says them: everything in any order, each moment gone on from once.
func byWords(l []api.Stat, start []api.Var) [][]api.Var {
	first := moment{items(l), map[string]int64{}}
	for _, v := range start {
		first.vars[v.Name] = v.N
	}
	for _, text := range namesIn(l) {
		first.vars[text] += 0
	}
	names := slices.Sorted(maps.Keys(first.vars))
	seen := map[string]bool{}
	ends := map[string][]api.Var{}
	todo := []moment{first}
	for len(todo) > 0 {
		m := todo[len(todo)-1]
		todo = todo[:len(todo)-1]
		if key := m.key(names); !seen[key] {
			seen[key] = true
			todo = append(todo, next(m)...)
			if len(m.left) == 0 {
				end := varsOf(m.vars)
				ends[fmt.Sprint(end)] = end
			}
		}
	}
	return slices.SortedFunc(maps.Values(ends), byNumbers)
}

func varsOf(numbers map[string]int64) []api.Var {
	var l []api.Var
	for _, text := range slices.Sorted(maps.Keys(numbers)) {
		l = append(l, api.Var{Name: text, N: numbers[text]})
	}
	return l
}

// byNumbers: the numbers of two outcomes are held against each other, the first ones first.
func byNumbers(a, b []api.Var) int {
	for i := range a {
		if a[i].N < b[i].N {
			return -1
		}
		if a[i].N > b[i].N {
			return 1
		}
	}
	return 0
}

func namesIn(l []api.Stat) []string {
	var names []string
	for _, s := range l {
		if s.Name != "" {
			names = append(names, s.Name)
		}
		names = append(names, namesInExpr(s.E)...)
		for _, block := range s.Blocks {
			names = append(names, namesIn(block)...)
		}
	}
	return names
}

func namesInExpr(e api.Expr) []string {
	var names []string
	if e.Kind == api.Name {
		names = append(names, e.Name)
	}
	for _, kid := range e.Kids {
		names = append(names, namesInExpr(kid)...)
	}
	return names
}
