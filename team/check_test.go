package team_test

import (
	"math"
	"slices"
	"strings"
	"testing"

	"lockstep/api"
	"lockstep/team"
)

// holdError: Run says this error, and nothing beside it.
func holdError(t *testing.T, what string, l []api.Stat, start []api.Var, steps, workers int, want api.Errno) {
	t.Helper()
	got, took, err := team.Run(l, start, steps, workers)
	if err != want || err != api.OK && (got != nil || took != 0) {
		t.Errorf("%s: with %v, %d steps and %d workers: %v, %d steps, error %d, not %d", what, start, steps, workers, got, took, err, want)
	}
}

// Whatever else may be wrong.
var (
	anyStart   = [][]api.Var{nil, {{Name: "x", N: 1}}, {{Name: "x"}, {Name: "x"}}, {{}}, {{Name: "if"}}}
	anySteps   = []int{math.MinInt, -1, 0, 1, 1000, math.MaxInt}
	anyWorkers = []int{math.MinInt, -1, 0, 1, 2, 16, 17, math.MaxInt}
)

// holdWhatever: this error comes ahead of all that is wrong with the rest.
func holdWhatever(t *testing.T, what string, l []api.Stat, want api.Errno) {
	t.Helper()
	for _, start := range anyStart {
		for _, steps := range anySteps {
			for _, workers := range anyWorkers {
				holdError(t, what, l, start, steps, workers, want)
			}
		}
	}
}

// noPrograms: what Write says ErrArg of.
func noPrograms() [][]api.Stat {
	fine := assign("x", num(1))
	return [][]api.Stat{
		{{}}, {{Kind: 6}}, {{Kind: -1}},
		{assign("if", num(1))}, {add("", num(1))}, {assign("abcdefghi", num(1))}, {assign("X", num(1))},
		{assign("x", num(-1))}, {assign("x", num(1000000001))}, {assign("x", name("and"))}, {assign("x", api.Expr{})},
		{assign("x", of(api.Sum, num(1)))}, {assign("x", of(api.Times, num(1), num(1), num(1)))}, {assign("x", api.Expr{Kind: 6})},
		{when(num(1))}, {when(num(1), nil, nil, nil)}, {when(api.Expr{}, nil)},
		{repeat(-1)}, {repeat(1001)}, {{Kind: api.Repeat}}, {{Kind: api.Repeat, N: 1, Blocks: make([][]api.Stat, 2)}},
		{par()}, {par(make([][]api.Stat, 9)...)},
		{{Kind: api.Assign, Name: "x", E: num(1), N: 1}}, {{Kind: api.Par, Name: "x", Blocks: make([][]api.Stat, 1)}},
		{fine, repeat(0, when(num(0), nil, list(fine, api.Stat{})))}, {par(list(fine), list(api.Stat{}))},
	}
}

// clash: a Par that has a race.
func clash() api.Stat { return par(list(assign("x", num(1))), list(assign("x", num(2)))) }

func TestP25ErrArgOfPrograms(t *testing.T) {
	large := slices.Repeat(list(assign("x", num(1))), api.MaxOps)
	for _, l := range noPrograms() {
		holdWhatever(t, "no program", l, api.ErrArg)
		holdWhatever(t, "no program, and a race", append(list(clash()), l...), api.ErrArg)
		holdError(t, "no program, and too large", append(slices.Clone(large), l...), nil, 5, 5, api.ErrArg)
	}
}

func TestP25ErrLargeOfPrograms(t *testing.T) {
	empty := slices.Repeat(list(par(nil)), api.MaxOps)
	hold(t, empty, nil, nil, 0)
	for what, l := range map[string][]api.Stat{
		"too many statements":  append(slices.Clone(empty), par(nil)),
		"too many, and a race": append(slices.Clone(empty), clash()),
		"too deep":             read(t, nested("repeat 1 { ", "par { }", " }", 49)),
	} {
		if what == "too deep" {
			hold(t, l, nil, nil, 0)
			l = list(repeat(1, l...))
		}
		holdWhatever(t, what, l, api.ErrLarge)
	}
}

func TestP25ErrRace(t *testing.T) {
	for _, text := range []string{
		"par { x = 1 } and { x = 2 }", "par { x = 1 } and { y = x }", "par { x = 1 } and { x += 2 }", "par { x += 1 } and { y = x }",
		"par { x += 1 } and { y += x }", "par { x += 1 } and { if x { } }", "par { x = 1 } and { if x { } else { } }",
		"par { y = 1 } and { x = 1 } and { z = 1; w = 2 * (3 - x) }", "par { x += 1 } and { y += 1 } and { x += y }",
		"par { par { x = 1 } and { y = 1 } } and { repeat 0 { x = 2 } }", "par { if 0 { x = 1 } } and { if 0 { x += 1 } }",
		"y = 1; repeat 2 { if y { } else { z = 1; par { x += 1 } and { x = 1 } } }", "par { x += x } and { x += 1 }",
		"x = 1; par { x = 1 } and { par { } and { repeat 1000 { y += x } } }",
	} {
		holdWhatever(t, text, read(t, text), api.ErrRace)
	}
	for _, text := range []string{
		"par { x = 1 }", "par { x = x } and { y = y }", "par { x = z } and { y = z } and { if z { } }", "par { x += z } and { x += 1 }",
		"x = 1; par { x += 1 } and { y = 1 }; x = y", "par { x = 1; par { x += 1 } and { x += y } } and { z = y }",
	} {
		holdError(t, text, read(t, text), nil, 100, 2, api.OK)
	}
}

func TestP25ErrName(t *testing.T) {
	many := list(repeat(1000, assign("x", num(1))))
	for _, l := range [][]api.Stat{nil, list(assign("x", num(1))), many} {
		for _, steps := range anySteps {
			for _, workers := range anyWorkers {
				for _, text := range []string{"", "if", "else", "repeat", "par", "and", "abcdefghi", "A", "a1", "é", " a", "a\x00"} {
					holdError(t, "no name", l, []api.Var{{Name: "a"}, {Name: text}}, steps, workers, api.ErrName)
				}
				holdError(t, "one twice", l, vars("x y x", 1, 2, 1), steps, workers, api.ErrName)
				holdError(t, "one twice", l, vars("other other", 1, 2), steps, workers, api.ErrName)
			}
		}
	}
	hold(t, nil, vars("zzzzzzzz iff", 1, 2), vars("iff zzzzzzzz", 2, 1), 0)
}

func TestP25ErrArgOfSteps(t *testing.T) {
	for _, l := range [][]api.Stat{nil, list(assign("x", num(1))), list(par(list(add("x", num(1))), list(assign("y", num(1)))))} {
		for _, steps := range []int{-1, -5, math.MinInt} {
			for _, workers := range anyWorkers {
				holdError(t, "steps below 0", l, vars("x", 1), steps, workers, api.ErrArg)
			}
		}
	}
	holdError(t, "no step", nil, nil, 0, 1, api.OK)
}

// What is wrong with the workers is told ahead of too few steps, and also where there is nothing to do.
func TestP25ErrArgOfWorkers(t *testing.T) {
	endless := read(t, nested("repeat 1000 { ", "x += 1", " }", 40))
	for _, l := range [][]api.Stat{nil, list(assign("x", num(1))), read(t, "par { x += 1 } and { y = 1 }"), endless} {
		for _, steps := range []int{0, 1, 2, 1000, math.MaxInt} {
			for _, workers := range []int{0, -1, math.MinInt, api.MaxWorkers + 1, 1000, math.MaxInt} {
				holdError(t, "workers", l, vars("x", 1), steps, workers, api.ErrArg)
			}
		}
	}
	for workers := 1; workers <= api.MaxWorkers; workers++ {
		holdError(t, "too few steps", endless, nil, 1000, workers, api.ErrLarge)
		holdError(t, "enough", nil, nil, 0, workers, api.OK)
	}
}

// A program whose lists lie within themselves, or again and again at one place, is told at once.
func TestP1ListsWithinThemselves(t *testing.T) {
	round := []api.Stat{{Kind: api.Repeat, N: 1, Blocks: make([][]api.Stat, 1)}}
	round[0].Blocks[0] = round
	holdError(t, "a list within itself", round, nil, 5, 2, api.ErrLarge)
	e := []api.Expr{{Kind: api.Sum}, {Kind: api.Sum}}
	e[0].Kids, e[1].Kids = e, e
	holdError(t, "an expression within itself", list(assign("x", e[0])), []api.Var{{}}, 5, 2, api.ErrLarge)
	l := list(par(nil))
	for range 40 {
		l = list(par(l, l), par(l, l))
	}
	holdError(t, "a list again and again", l, nil, 5, 2, api.ErrLarge)
	holdError(t, "and no program beside it", append(l, api.Stat{N: math.MaxInt64, Name: strings.Repeat("x", 1000)}), nil, 5, 2, api.ErrArg)
	// One list may stand at several places, as long as it is no race.
	one := list(add("x", num(1)), repeat(2, add("x", num(2))))
	hold(t, list(par(one, one, one), repeat(2, par(one, one))), nil, vars("x", 35), 21)
}
