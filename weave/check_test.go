package weave_test

import (
	"math"
	"strings"
	"testing"

	"lockstep/api"
)

func times(many int, s api.Stat) []api.Stat {
	var l []api.Stat
	for range many {
		l = append(l, s)
	}
	return l
}

// nested: the statement within so many Repeats of one time.
func nested(s api.Stat, many int) api.Stat {
	for range many {
		s = repeat(1, s)
	}
	return s
}

// longSum of so many numbers, which is not deep.
func longSum(many int) api.Expr {
	if many == 1 {
		return num(1)
	}
	return of(api.Sum, longSum(many/2), longSum(many-many/2))
}

// noPrograms: what Write says ErrArg of.
func noPrograms() [][]api.Stat {
	fine := assign("x", num(1))
	return [][]api.Stat{
		{{}}, {{Kind: 6}}, {{Kind: -1}},
		{assign("if", num(1))}, {add("", num(1))}, {assign("abcdefghi", num(1))}, {assign("X", num(1))},
		{assign("x", num(-1))}, {assign("x", num(1000000001))}, {assign("x", name("and"))}, {assign("x", api.Expr{})},
		{assign("x", of(api.Sum, num(1)))}, {assign("x", of(api.Times, num(1), num(1), num(1)))}, {assign("x", api.Expr{Kind: 6})},
		{when(num(1))}, {when(num(1), nil, nil, nil)}, {when(api.Expr{}, nil)},
		{repeat(-1)}, {repeat(1001)}, {{Kind: api.Repeat}}, {{Kind: api.Repeat, N: 1, Blocks: make([][]api.Stat, 2)}},
		{par()}, {par(make([][]api.Stat, 9)...)},
		{{Kind: api.Assign, Name: "x", E: num(1), N: 1}}, {{Kind: api.Par, Name: "x", Blocks: make([][]api.Stat, 1)}},
		{fine, repeat(0, when(num(0), nil, list(fine, api.Stat{})))},
	}
}

func TestP24ErrArg(t *testing.T) {
	large := times(api.MaxOps, assign("x", num(1)))
	for _, l := range noPrograms() {
		for _, start := range [][]api.Var{nil, vars("x", 1), vars("x x", 1, 1), {{}}} {
			holdError(t, "no program", l, start, api.ErrArg)
			holdError(t, "no program, and too large", append(large[:len(large):len(large)], l...), start, api.ErrArg)
		}
	}
}

func TestP24ErrLargeOfPrograms(t *testing.T) {
	// A Par and its blocks count for the program's size, but not as parts.
	empty := times(api.MaxOps, par(nil))
	hold(t, empty, nil, [][]api.Var{nil})
	hold(t, list(assign("x", longSum(500))), nil, outcomes("x", 500))
	hold(t, list(nested(assign("x", num(1)), 48)), nil, outcomes("x", 1))
	for what, l := range map[string][]api.Stat{
		"too many statements":  append(empty, par(nil)),
		"too many expressions": list(assign("x", longSum(501))),
		"too deep":             list(nested(assign("x", num(1)), 49)),
	} {
		for _, start := range [][]api.Var{nil, vars("x", 1), vars("x x", 1, 1), {{Name: "par"}}} {
			holdError(t, what, l, start, api.ErrLarge)
		}
	}
}

func TestP24ErrName(t *testing.T) {
	many := times(maxParts+1, assign("x", num(1)))
	for _, l := range [][]api.Stat{nil, list(assign("x", num(1))), many, list(repeat(1000, many...))} {
		for _, text := range []string{"", "if", "else", "repeat", "par", "and", "abcdefghi", "A", "a1", "é", " a", "a\x00"} {
			holdError(t, "no name", l, []api.Var{{Name: "a"}, {Name: text}}, api.ErrName)
		}
		holdError(t, "one twice", l, vars("x y x", 1, 2, 1), api.ErrName)
		holdError(t, "one twice", l, vars("other other", 1, 2), api.ErrName)
	}
	hold(t, nil, vars("zzzzzzzz iff", 1, 2), outcomes("iff zzzzzzzz", 2, 1))
}

// fits: it has as many parts as may be; with one more it is too large.
func fits(t *testing.T, what string, l []api.Stat) {
	t.Helper()
	holdError(t, what, l, nil, api.OK)
	for _, more := range []api.Stat{assign("x", num(1)), add("x", num(1)), when(num(0), nil), repeat(1, par(nil, list(assign("x", num(1)))))} {
		holdError(t, "more than "+what, append(l[:len(l):len(l)], more), nil, api.ErrLarge)
		holdError(t, "more than "+what, append(list(more), l...), nil, api.ErrLarge)
		holdError(t, "more beside "+what, list(par(list(more), l)), nil, api.ErrLarge)
	}
}

func TestP24AtMostNineParts(t *testing.T) {
	one, plus := assign("x", num(1)), add("x", num(1))
	fits(t, "nine Assigns", times(9, one))
	fits(t, "nine Adds", times(9, plus))
	fits(t, "nine Ifs", times(9, when(num(1), nil)))
	fits(t, "Ifs within one another", list(when(num(1), list(when(num(1), list(when(num(0), times(6, one))))))))
	fits(t, "both blocks of an If, though it does one", list(when(num(1), times(4, one), times(4, plus))))
	fits(t, "what an If never does", list(when(num(0), times(8, one))))
	fits(t, "a Repeat", list(repeat(9, plus)))
	fits(t, "a Repeat of several", list(repeat(3, one, plus, when(num(0), nil))))
	fits(t, "Repeats within one another", list(repeat(3, repeat(3, plus))))
	fits(t, "a Repeat within another, and one beside it", list(repeat(2, repeat(3, plus), one), one))
	fits(t, "a Repeat within an If within a Repeat", list(repeat(2, when(num(1), nil, list(repeat(3, plus)))), one))
	fits(t, "blocks of a Par", list(par(times(4, one), times(5, plus))))
	fits(t, "a Repeat of a Par", list(repeat(3, par(list(one), list(one), list(one)))))
	fits(t, "what is repeated 0 times", append(times(9, one), repeat(0, times(50, one)...), repeat(5, repeat(0, plus)), repeat(0, repeat(1000, plus))))
	fits(t, "Repeats and Pars of nothing", append(times(9, one), repeat(1000), repeat(1000, repeat(1000), par(nil, nil))))
}

// Their number may be more than a number can be: it is too large all the same, and told at once.
func TestP24FarTooManyParts(t *testing.T) {
	for depth := 1; depth <= 48; depth++ {
		s := assign("x", num(1))
		for range depth {
			s = repeat(1000, s)
		}
		holdError(t, "far too many", list(s), nil, api.ErrLarge)
		holdError(t, "far too many in an If that does nothing", list(when(num(0), list(s.Blocks[0]...))), nil, tooMany(depth))
	}
	// These come to 2^64 times, and to 2^64 + 1.
	doubled := add("x", num(1))
	for range 8 {
		doubled = repeat(256, doubled)
	}
	holdError(t, "2^64 of them", list(doubled), nil, api.ErrLarge)
	holdError(t, "one more", list(doubled, add("x", num(1))), nil, api.ErrLarge)
	holdError(t, "2^63 of them twice", list(when(num(0), list(repeat(128, doubled.Blocks[0]...)), list(repeat(128, doubled.Blocks[0]...)))), nil, api.ErrLarge)
	holdError(t, "many beside one another", list(par(times(100, doubled), times(100, doubled))), nil, api.ErrLarge)
}

// tooMany: what is within one Repeat fewer.
func tooMany(depth int) api.Errno {
	if depth == 1 {
		return api.OK
	}
	return api.ErrLarge
}

// A program whose lists lie within themselves, or again and again at one place, is told at once.
func TestP24ListsWithinThemselves(t *testing.T) {
	round := []api.Stat{{Kind: api.Repeat, N: 1, Blocks: make([][]api.Stat, 1)}}
	round[0].Blocks[0] = round
	holdError(t, "a list within itself", round, nil, api.ErrLarge)
	holdError(t, "a list within itself, and no name", round, []api.Var{{}}, api.ErrLarge)
	e := []api.Expr{{Kind: api.Sum}, {Kind: api.Sum}}
	e[0].Kids, e[1].Kids = e, e
	holdError(t, "an expression within itself", list(assign("x", e[0])), nil, api.ErrLarge)
	l := list(par(nil))
	for range 40 {
		l = list(par(l, l), par(l, l))
	}
	holdError(t, "a list again and again", l, nil, api.ErrLarge)
	holdError(t, "and no program beside it", append(l, api.Stat{N: math.MaxInt64, Name: strings.Repeat("x", 1000)}), nil, api.ErrArg)
}
