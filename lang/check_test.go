package lang_test

import (
	"math"
	"slices"
	"strings"
	"testing"

	"lockstep/api"
	"lockstep/lang"
)

type checkCase struct {
	what string
	l    []api.Stat
	want api.Errno
}

// holdCases: Write, Races and Mean say the error that is wanted, with zeros beside it, Mean also if start and steps are wrong.
func holdCases(t *testing.T, cases []checkCase) {
	t.Helper()
	for _, c := range cases {
		text, err := lang.Write(c.l)
		if err != c.want || err != api.OK && text != "" {
			t.Errorf("%s: Write says %.50q, error %d, not %d", c.what, text, err, c.want)
		}
		if err := lang.Races(c.l); err != c.want {
			t.Errorf("%s: Races says %d, not %d", c.what, err, c.want)
		}
		holdMean(t, c.what, c.l, nil, math.MaxInt32, c.want)
		if c.want != api.OK {
			holdMean(t, c.what, c.l, nil, -1, c.want)
			holdMean(t, c.what, c.l, []api.Var{{}}, 5, c.want)
			holdMean(t, c.what, c.l, []api.Var{{Name: "if"}}, -1, c.want)
		}
	}
}

// holdMean: Mean says this error, and nothing beside it.
func holdMean(t *testing.T, what string, l []api.Stat, start []api.Var, steps int, want api.Errno) {
	t.Helper()
	vars, took, err := lang.Mean(l, start, steps)
	if err != want || err != api.OK && (vars != nil || took != 0) {
		t.Errorf("%s: Mean of %v and %d steps says %v %d, error %d, not %d", what, start, steps, vars, took, err, want)
	}
}

// goodNames, and those that are none.
var goodNames = []string{"a", "z", "abcdefgh", "zzzzzzzz", "i", "iff", "ifelse", "el", "repeats", "repea", "pa", "pars", "an", "ands"}

var badNames = []string{"", "abcdefghi", strings.Repeat("a", 1000), "if", "else", "repeat", "par", "and", "A", "aB", "a1", "1", "a b", " a", "a ", "a\n", "\x00", "a\x00", "`", "{", "a_b", "é", "aé", "\xff", "a\xff", "ａ"}

func TestP22WriteTakesPrograms(t *testing.T) {
	cases := []checkCase{
		{"nothing", nil, api.OK},
		{"nothing in a list", []api.Stat{}, api.OK},
		{"the least number", list(assign("x", num(0))), api.OK},
		{"the greatest number", list(add("x", num(maxNumber))), api.OK},
		{"an If of one block", list(when(name("x"), nil)), api.OK},
		{"an If of two blocks", list(when(name("x"), nil, nil)), api.OK},
		{"Repeat 0", list(repeat(0)), api.OK},
		{"Repeat as often as may be", list(repeat(maxTimes)), api.OK},
		{"a Par of one block", list(par(nil)), api.OK},
		{"a Par of as many blocks as may be", list(par(make([][]api.Stat, maxBlocks)...)), api.OK},
		{"all kinds of expressions", list(assign("x", of(api.Sum, of(api.Less, num(1), name("y")), of(api.Times, num(2), num(3))))), api.OK},
		{"lists of nothing", list(
			api.Stat{Kind: api.Assign, Name: "x", E: api.Expr{Kind: api.Number, Kids: []api.Expr{}}, Blocks: [][]api.Stat{}},
			api.Stat{Kind: api.Repeat, E: api.Expr{Kids: []api.Expr{}}, Blocks: [][]api.Stat{{}}},
		), api.OK},
		{"room behind lists", list(api.Stat{Kind: api.Add, Name: "x", E: api.Expr{Kind: api.Number, Kids: make([]api.Expr, 3)[:0]}, Blocks: make([][]api.Stat, 3)[:0]}), api.OK},
	}
	for _, text := range goodNames {
		cases = append(cases, checkCase{text, list(assign(text, num(1)), add(text, num(1)), when(name(text), nil)), api.OK})
	}
	holdCases(t, cases)
}

// within: the statement at any place of a program.
func within(s api.Stat) [][]api.Stat {
	fine := assign("x", num(1))
	return [][]api.Stat{
		{s}, {s, fine, fine}, {fine, fine, s},
		{when(num(1), list(fine, s))}, {when(num(1), nil, list(s, fine))}, {when(num(0), list(s), nil)},
		{repeat(0, fine, s, fine)}, {par(list(s))}, {par(list(fine), nil, list(fine, s)), fine},
		{fine, repeat(2, par(nil, list(when(num(1), nil, list(repeat(1, s))))))},
	}
}

func TestP22WriteErrArgOfStatements(t *testing.T) {
	one := num(1)
	wrong := []api.Stat{
		{}, {Kind: -1}, {Kind: 6}, {Kind: math.MaxInt}, {Kind: math.MinInt},
		{Name: "x", E: one}, {Kind: 6, Name: "x", E: one}, {Kind: 6, Blocks: [][]api.Stat{nil}},
		when(one), when(one, nil, nil, nil),
		{Kind: api.If, Blocks: [][]api.Stat{nil}},
		{Kind: api.If, E: one, Name: "x", Blocks: [][]api.Stat{nil}},
		{Kind: api.If, E: one, N: 1, Blocks: [][]api.Stat{nil}},
		{Kind: api.Repeat, N: 1}, {Kind: api.Repeat, N: 1, Blocks: [][]api.Stat{nil, nil}},
		repeat(-1), repeat(maxTimes + 1), repeat(math.MaxInt64), repeat(math.MinInt64),
		{Kind: api.Repeat, Name: "x", Blocks: [][]api.Stat{nil}},
		{Kind: api.Repeat, E: one, Blocks: [][]api.Stat{nil}},
		{Kind: api.Repeat, E: api.Expr{N: 1}, Blocks: [][]api.Stat{nil}},
		{Kind: api.Repeat, E: api.Expr{Name: "x"}, Blocks: [][]api.Stat{nil}},
		{Kind: api.Repeat, E: api.Expr{Kids: []api.Expr{{}}}, Blocks: [][]api.Stat{nil}},
		par(), par(make([][]api.Stat, maxBlocks+1)...), par(make([][]api.Stat, 5000)...),
		{Kind: api.Par, Name: "x", Blocks: [][]api.Stat{nil}},
		{Kind: api.Par, N: 1, Blocks: [][]api.Stat{nil}},
		{Kind: api.Par, E: one, Blocks: [][]api.Stat{nil}},
		{Kind: api.Par, E: api.Expr{Kids: []api.Expr{one, one}}, Blocks: [][]api.Stat{nil}},
	}
	for _, kind := range []int{api.Assign, api.Add} {
		wrong = append(wrong,
			api.Stat{Kind: kind, Name: "x"}, api.Stat{Kind: kind, E: one},
			api.Stat{Kind: kind, Name: "x", E: one, N: 1}, api.Stat{Kind: kind, Name: "x", E: one, N: -1},
			api.Stat{Kind: kind, Name: "x", E: one, Blocks: [][]api.Stat{nil}},
		)
		for _, text := range badNames {
			wrong = append(wrong, api.Stat{Kind: kind, Name: text, E: one})
		}
	}
	var cases []checkCase
	for _, s := range wrong {
		for _, l := range within(s) {
			cases = append(cases, checkCase{"a statement that is none", l, api.ErrArg})
		}
	}
	holdCases(t, cases)
}

func TestP22WriteErrArgOfExpressions(t *testing.T) {
	one := num(1)
	wrong := []api.Expr{
		{}, {Kind: -1}, {Kind: 6}, {Kind: 6, Kids: []api.Expr{one, one}}, {N: 1}, {Name: "x"},
		num(-1), num(maxNumber + 1), num(math.MaxInt64), num(math.MinInt64),
		{Kind: api.Number, Name: "x"}, {Kind: api.Number, Kids: []api.Expr{one}}, {Kind: api.Number, Kids: []api.Expr{one, one}},
		{Kind: api.Name, Name: "x", N: 1}, {Kind: api.Name, Name: "x", Kids: []api.Expr{one, one}},
	}
	for _, text := range badNames {
		wrong = append(wrong, name(text))
	}
	for _, kind := range []int{api.Sum, api.Less, api.Times} {
		wrong = append(wrong,
			of(kind), of(kind, one), of(kind, one, one, one),
			api.Expr{Kind: kind, N: 1, Kids: []api.Expr{one, one}},
			api.Expr{Kind: kind, Name: "x", Kids: []api.Expr{one, one}},
		)
	}
	var cases []checkCase
	for _, e := range wrong {
		for _, e := range []api.Expr{e, of(api.Sum, one, e), of(api.Less, e, one), of(api.Times, of(api.Sum, one, of(api.Times, e, one)), one)} {
			for _, s := range []api.Stat{assign("x", e), add("x", e), when(e, nil)} {
				for _, l := range within(s) {
					cases = append(cases, checkCase{"an expression that is none", l, api.ErrArg})
				}
			}
		}
	}
	holdCases(t, cases)
}

// sums: an expression of so many ops (an odd number), but not deep.
func sums(ops int) api.Expr {
	if ops <= 1 {
		return num(1)
	}
	first := (ops - 1) / 2
	if first%2 == 0 {
		first--
	}
	return of(api.Sum, sums(first), sums(ops-1-first))
}

// row: an expression of such a height, to the left or to the right.
func row(height, side int) api.Expr {
	e := name("x")
	for range height - 1 {
		if side == 0 {
			e = of(api.Less, e, num(1))
		} else {
			e = of(api.Less, num(1), e)
		}
	}
	return e
}

// under so many statements, of all kinds in turn, one in a block of the other.
func under(levels int, l []api.Stat) []api.Stat {
	for level := range levels {
		switch level % 4 {
		case 0:
			l = list(par(nil, l))
		case 1:
			l = list(repeat(1, l...))
		case 2:
			l = list(when(num(1), l))
		case 3:
			l = list(when(num(0), nil, l))
		}
	}
	return l
}

func TestP22WriteErrLarge(t *testing.T) {
	halves := slices.Repeat(list(assign("x", num(1))), api.MaxOps/2)
	holdCases(t, []checkCase{
		{"as many statements as may be", slices.Repeat(list(par(nil)), api.MaxOps), api.OK},
		{"too many statements", slices.Repeat(list(par(nil)), api.MaxOps+1), api.ErrLarge},
		{"too many statements by far", slices.Repeat(list(repeat(0)), api.MaxItems), api.ErrLarge},
		{"as many statements and expressions", halves, api.OK},
		{"one more statement", append(slices.Clone(halves), par(nil)), api.ErrLarge},
		{"one more, ahead", append(list(repeat(0)), halves...), api.ErrLarge},
		{"as many, in blocks", list(when(num(1), halves[:200], halves[:198]), when(sums(101), halves[:49]), par(nil), par(nil)), api.OK},
		{"too many, in blocks", list(when(num(1), halves[:200], halves[:198]), when(sums(101), halves[:49]), par(nil), par(nil, list(par(nil)))), api.ErrLarge},
		{"as many in one block", list(repeat(1, halves[:499]...), par(nil)), api.OK},
		{"too many in one block", list(repeat(1, halves[:499]...), par(nil), par(nil)), api.ErrLarge},
		{"as many in the second block of an If", list(when(num(1), nil, halves[:499])), api.OK},
		{"too many in the second block of an If", list(when(num(1), nil, halves)), api.ErrLarge},
		{"as great an expression as may be", list(par(nil), assign("x", sums(api.MaxOps-3)), par(nil)), api.OK},
		{"too great an expression", list(assign("x", sums(api.MaxOps+1))), api.ErrLarge},
		{"as great an expression of an If", list(when(sums(api.MaxOps-1), nil)), api.OK},
		{"too great an expression of an If", list(par(nil), when(sums(api.MaxOps-1), nil)), api.ErrLarge},
		{"as deep statements as may be", under(maxDepth-1, list(par(nil))), api.OK},
		{"too deep statements", under(maxDepth, list(par(nil))), api.ErrLarge},
		{"an empty block that is deeper", under(maxDepth, nil), api.OK},
		{"as deep an expression of a statement in blocks", under(maxDepth-2, list(assign("x", num(1)))), api.OK},
		{"too deep an expression of a statement in blocks", under(maxDepth-1, list(assign("x", num(1)))), api.ErrLarge},
		{"too deep an expression of an If in blocks", under(maxDepth-1, list(when(num(1), nil))), api.ErrLarge},
		{"as deep an expression as may be, to the left", list(assign("x", row(maxDepth-1, 0))), api.OK},
		{"as deep an expression as may be, to the right", list(when(row(maxDepth-1, 1), nil)), api.OK},
		{"too deep an expression, to the left", list(add("x", row(maxDepth, 0))), api.ErrLarge},
		{"too deep an expression, to the right", list(when(row(maxDepth, 1), nil)), api.ErrLarge},
		{"half and half", under(20, list(assign("x", row(maxDepth-21, 0)))), api.OK},
		{"half and half, too deep", under(20, list(par(nil), assign("x", row(maxDepth-20, 1)), par(nil))), api.ErrLarge},
		{"far too deep statements", under(1<<16-1, list(par(nil))), api.ErrLarge},
		{"far too deep an expression", list(assign("x", row(1<<16-2, 0))), api.ErrLarge},
	})
}

// The greatest cases of the test above are what they are said to be.
func TestGreatestCases(t *testing.T) {
	if n := opsOf(list(assign("x", sums(api.MaxOps-3)))) + 2; n != api.MaxOps {
		t.Error(n)
	}
	if n := depthOf(under(20, list(assign("x", row(maxDepth-21, 0))))); n != maxDepth {
		t.Error(n)
	}
	if n := depthOf(under(maxDepth-2, list(assign("x", num(1))))); n != maxDepth {
		t.Error(n)
	}
}

func TestP22WriteOrderOfErrors(t *testing.T) {
	many := slices.Repeat(list(assign("x", num(1))), api.MaxOps)
	bad := assign("if", num(1))
	holdCases(t, []checkCase{
		{"wrong behind too many", append(slices.Clone(many), bad), api.ErrArg},
		{"wrong ahead of too many", append(list(bad), many...), api.ErrArg},
		{"wrong expression behind too many", append(slices.Clone(many), assign("x", of(api.Sum, num(1), num(-1)))), api.ErrArg},
		{"wrong and far too deep", under(1<<16-1, list(bad)), api.ErrArg},
		{"wrong expression, far too deep", under(1<<16-2, list(assign("x", num(-1)))), api.ErrArg},
		{"wrong part of too great an expression", list(assign("x", of(api.Sum, sums(api.MaxOps+1), name("")))), api.ErrArg},
		{"wrong behind what is too deep", append(under(maxDepth, list(par(nil))), repeat(-1)), api.ErrArg},
		{"too many blocks, too deep", under(maxDepth, list(par(make([][]api.Stat, maxBlocks+1)...))), api.ErrArg},
		{"races, and too many", append(slices.Clone(many), par(many[:1], many[:1])), api.ErrLarge},
		{"races, and wrong", list(par(many[:1], many[:1]), bad), api.ErrArg},
	})
}

// doubled: an expression each of whose parts has the same two kids, which are one list in memory for each level.
func doubled(levels int, e api.Expr) api.Expr {
	for range levels {
		e = of(api.Sum, e, e)
	}
	return e
}

// doubledStats: the same of statements, by Pars of two blocks that are one.
func doubledStats(levels int, l []api.Stat) []api.Stat {
	for range levels {
		l = list(par(l, l))
	}
	return l
}

// What is small in memory may be greater than can be gone through one by one.
func TestP1CheckEndsWhateverIsShared(t *testing.T) {
	ring := list(par(nil, nil), repeat(1), assign("x", num(1)))
	ring[0].Blocks[0], ring[0].Blocks[1], ring[1].Blocks[0] = ring, ring[2:], ring[1:]
	wrongRing := list(par(nil), repeat(1), assign("x", num(-1)))
	wrongRing[0].Blocks[0], wrongRing[1].Blocks[0] = wrongRing[:2], wrongRing
	round := []api.Expr{of(api.Sum), num(1)}
	round[0].Kids = round
	wrongRound := []api.Expr{of(api.Sum), num(-1)}
	wrongRound[0].Kids = wrongRound
	three := list(par(nil), repeat(1), assign("x", num(-1)))
	holdCases(t, []checkCase{
		{"one expression at many places", list(assign("x", doubled(8, num(1)))), api.OK},
		{"one expression at too many places", list(assign("x", doubled(9, num(1)))), api.ErrLarge},
		{"an expression that is doubled without end", list(assign("x", doubled(2000, num(1)))), api.ErrLarge},
		{"wrong, and doubled without end", list(assign("x", doubled(2000, num(-1)))), api.ErrArg},
		{"statements that are doubled", doubledStats(8, list(par(nil))), api.OK},
		{"statements that are doubled too often", doubledStats(9, list(par(nil))), api.ErrLarge},
		{"statements that are doubled without end", doubledStats(2000, list(par(nil))), api.ErrLarge},
		{"wrong statements, doubled without end", doubledStats(2000, list(par())), api.ErrArg},
		{"statements of nothing, doubled as deep as may be", doubledStats(maxDepth, nil), api.ErrLarge},
		{"a list within itself", ring, api.ErrLarge},
		{"a list within itself, and a wrong one", wrongRing[:1], api.ErrArg},
		{"an expression within itself", list(when(round[0], nil)), api.ErrLarge},
		{"an expression within itself, and a wrong one", list(when(wrongRound[0], nil)), api.ErrArg},
		{"a list, and a longer one of the same beginning", list(par(three[:2], three)), api.ErrArg},
		{"a list, and a shorter one of the same beginning", list(par(three, three[:2])), api.ErrArg},
		{"the sound beginning of a list", list(par(three[:2], three[:1])), api.OK},
		{"the sound beginning of a list, the other way round", list(par(three[:1], three[:2])), api.OK},
	})
}

func TestP23MeanErrName(t *testing.T) {
	l := list(assign("x", num(1)))
	for _, text := range badNames {
		v := api.Var{Name: text, N: 1}
		for _, start := range [][]api.Var{{v}, {v, {Name: "x"}}, {{Name: "x"}, {Name: "y"}, v}} {
			for _, steps := range []int{-1, math.MinInt, 0, 1, math.MaxInt} {
				holdMean(t, "no name", l, start, steps, api.ErrName)
				holdMean(t, "no name, and no program", nil, start, steps, api.ErrName)
			}
		}
	}
	a, b, c := api.Var{Name: "a"}, api.Var{Name: "b", N: 1}, api.Var{Name: "c"}
	for _, start := range [][]api.Var{{a, a}, {a, b, a}, {b, c, a, c}, {b, {Name: "b"}}, {a, a, a}, slices.Repeat([]api.Var{b}, 1000)} {
		holdMean(t, "twice", l, start, -1, api.ErrName)
		holdMean(t, "twice", l, start, 0, api.ErrName)
		holdMean(t, "twice", l, start, 5, api.ErrName)
	}
	for _, text := range goodNames {
		holdMean(t, text, l, []api.Var{{Name: text, N: 5}}, 1, api.OK)
	}
}

func TestP23MeanErrArgOfSteps(t *testing.T) {
	for _, steps := range []int{-1, -5, math.MinInt} {
		holdMean(t, "steps below 0", nil, nil, steps, api.ErrArg)
		holdMean(t, "steps below 0", list(assign("x", num(1))), []api.Var{{Name: "x"}}, steps, api.ErrArg)
	}
	holdMean(t, "no step", nil, nil, 0, api.OK)
	holdMean(t, "as many steps as may be said", list(assign("x", num(1))), nil, math.MaxInt, api.OK)
}
