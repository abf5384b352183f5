package lang

import (
	"slices"

	"lockstep/api"
)

// What the document allows, and package api has no name for.
const (
	maxNumber = 1000000000
	maxTimes  = 1000
	maxBlocks = 8
	maxDepth  = 50
	maxName   = 8
)

// check: all of it is looked at, however large, because what is no program is told ahead of what is too large.
func check(l []api.Stat) api.Errno {
	kids, ok := allSound(l)
	if !ok || !allSoundWithin(kids) {
		return api.ErrArg
	}
	if tooLarge(l) {
		return api.ErrLarge
	}
	return api.OK
}

// checkFor: what is wrong with the program comes ahead of what is wrong with start, and that ahead of the steps.
func checkFor(l []api.Stat, start []api.Var, steps int) api.Errno {
	if err := check(l); err != api.OK {
		return err
	}
	if !allNamed(start) {
		return api.ErrName
	}
	if steps < 0 {
		return api.ErrArg
	}
	return api.OK
}

// allSound: is each statement one, and its expression, whatever is within that? Then it answers the lists of what is. Each list is looked at once, by where it begins: a list may stand at many places, or even within itself, and to go there again and again might never end.
func allSound(l []api.Stat) (kids [][]api.Expr, ok bool) {
	seen := map[*api.Stat]int{}
	todo := [][]api.Stat{l}
	for len(todo) > 0 {
		last := len(todo) - 1
		list := unseen(seen, todo[last])
		todo = todo[:last]
		for i := range list {
			s := &list[i]
			if !sound(s) {
				return nil, false
			}
			kids = append(kids, s.E.Kids)
			todo = append(todo, s.Blocks...)
		}
	}
	return kids, true
}

// allSoundWithin: is all of these lists an expression each? They are gone through as by allSound.
func allSoundWithin(todo [][]api.Expr) bool {
	seen := map[*api.Expr]int{}
	for len(todo) > 0 {
		last := len(todo) - 1
		list := unseen(seen, todo[last])
		todo = todo[:last]
		for i := range list {
			if !soundExpr(&list[i]) {
				return false
			}
			todo = append(todo, list[i].Kids)
		}
	}
	return true
}

// unseen: those of the list that have not been seen yet, and now are. Of lists that begin at one place the shorter are parts of the longest.
func unseen[T any](seen map[*T]int, list []T) []T {
	if len(list) == 0 {
		return nil
	}
	known := seen[&list[0]]
	if known >= len(list) {
		return nil
	}
	seen[&list[0]] = len(list)
	return list[known:]
}

// sound: is it a statement, whatever its blocks and the parts of its expression are?
func sound(s *api.Stat) bool {
	blocks := len(s.Blocks)
	switch s.Kind {
	case api.Assign, api.Add:
		return isName(s.Name) && soundExpr(&s.E) && s.N == 0 && blocks == 0
	case api.If:
		return s.Name == "" && soundExpr(&s.E) && s.N == 0 && (blocks == 1 || blocks == 2)
	case api.Repeat:
		return s.Name == "" && isNothing(&s.E) && s.N >= 0 && s.N <= maxTimes && blocks == 1
	case api.Par:
		return s.Name == "" && isNothing(&s.E) && s.N == 0 && blocks >= 1 && blocks <= maxBlocks
	}
	return false
}

// soundExpr: is it an expression, whatever its parts are?
func soundExpr(e *api.Expr) bool {
	switch e.Kind {
	case api.Number:
		return e.N >= 0 && e.N <= maxNumber && e.Name == "" && len(e.Kids) == 0
	case api.Name:
		return e.N == 0 && isName(e.Name) && len(e.Kids) == 0
	case api.Sum, api.Less, api.Times:
		return e.N == 0 && e.Name == "" && len(e.Kids) == 2
	}
	return false
}

// isNothing: is there no expression?
func isNothing(e *api.Expr) bool {
	return e.Kind == 0 && e.N == 0 && e.Name == "" && len(e.Kids) == 0
}

func isName(text string) bool {
	switch text {
	case "if", "else", "repeat", "par", "and":
		return false
	}
	return len(text) >= 1 && len(text) <= maxName && span(text, isLetter) == len(text)
}

// allNamed: has each variable a name, and none that of another?
func allNamed(l []api.Var) bool {
	names := make([]string, len(l))
	for i, v := range l {
		if !isName(v.Name) {
			return false
		}
		names[i] = v.Name
	}
	slices.Sort(names)
	return len(slices.Compact(names)) == len(l)
}
