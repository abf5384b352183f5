package weave_test

import (
	"fmt"
	"math"
	"slices"
	"strings"
	"testing"

	"lockstep/api"
	"lockstep/lang"
	"lockstep/weave"
)

func TestP24WeaveSmall(t *testing.T) {
	cases := []struct {
		text  string
		start []api.Var
		want  [][]api.Var
	}{
		{"", nil, [][]api.Var{nil}},
		{"", vars("b a", 1, 2), outcomes("a b", 2, 1)},
		{"par { } and { }; repeat 3 { }; repeat 0 { x = 1 }", nil, outcomes("x", 0)},
		{"x = 5", nil, outcomes("x", 5)},
		{"x += 5", vars("x", 7), outcomes("x", 12)},
		{"x = 1; x += x; y = x", nil, outcomes("x y", 2, 2)},
		{"par { x = 1 } and { x = 2 }", nil, outcomes("x", 1, 2)},
		{"par { x = 1; x = 2 }", nil, outcomes("x", 2)},
		{"par { x = 1 } and { x = 1 }", nil, outcomes("x", 1)},
		{"par { x = 1 } and { y = x }", nil, outcomes("x y", 1, 0, 1, 1)},
		{"par { x = 1 } and { y += x }", vars("y", 10), outcomes("x y", 1, 10, 1, 11)},
		// What is found is written later: what happened between is lost, but not if it is added.
		{"par { x = x + 1 } and { x = x + 1 }", nil, outcomes("x", 1, 2)},
		{"par { x += 1 } and { x += 1 }", nil, outcomes("x", 2)},
		{"par { x += x } and { x += 1 }", vars("x", 1), outcomes("x", 3, 4)},
		{"par { x += 1 } and { x = 5 }", nil, outcomes("x", 5, 6)},
		{"par { x = x + 1 } and { x = 5 }", nil, outcomes("x", 1, 5, 6)},
		{"par { x += x + 1 } and { x += x + 1 }", nil, outcomes("x", 2, 3)},
		{"par { x = 1; y = x } and { x = 2 }", nil, outcomes("x y", 1, 1, 2, 1, 2, 2)},
		// A number is found at one time: all of it is from one moment.
		{"par { x = 1; y = 1 } and { z = 2 * y - x }", nil, outcomes("x y z", 1, 1, -1, 1, 1, 0, 1, 1, 1)},
		// What is behind a Par is behind all of its blocks, and what is ahead of it, ahead of all.
		{"par { x = 1 } and { y = 2 }; z = x + y", nil, outcomes("x y z", 1, 2, 3)},
		{"x = 1; y = 2; par { a = x } and { b = y }", nil, outcomes("a b x y", 1, 2, 1, 2)},
		{"par { par { x = 1 } and { y = 1 }; z = x + y } and { x = 5 }", nil, outcomes("x y z", 1, 1, 2, 5, 1, 2, 5, 1, 6)},
		{"par { x += 1 } and { x += 1 }; par { y = x } and { z = x; x = 0 }", nil, outcomes("x y z", 0, 0, 2, 0, 2, 2)},
		// An If finds out at one time which block it does; what it does then may come to pass later.
		{"par { x = 1 } and { if x { y = x } else { y = 7 } }", nil, outcomes("x y", 1, 1, 1, 7)},
		{"par { x = 1 } and { if x { y = 1 } }", nil, outcomes("x y", 1, 0, 1, 1)},
		{"par { if x { x = 0; y += 1 } } and { if x { x = 0; y += 1 } }", vars("x", 1), outcomes("x y", 0, 1, 0, 2)},
		{"par { x = 0 } and { if x { y = x + 1 } }", vars("x", 1), outcomes("x y", 0, 0, 0, 1, 0, 2)},
		{"par { x = 0 - 1 } and { if x { y = 1 } else { y = 2 } }", vars("x", 1), outcomes("x y", -1, 1, -1, 2)},
		{"if x { x = 5 } else { x = 6 }; if x - 5 { y = 1 } else { y = 2 }", nil, outcomes("x y", 6, 1)},
		// One time of a Repeat is behind the other.
		{"par { repeat 2 { x = x + 1 } } and { x = 10 }", nil, outcomes("x", 2, 10, 11, 12)},
		{"repeat 2 { par { x = x + 1 } and { x = x + 1 } }", nil, outcomes("x", 2, 3, 4)},
		{"repeat 3 { x = x + x }", vars("x", 1), outcomes("x", 8)},
	}
	for _, c := range cases {
		l := read(t, c.text)
		hold(t, l, c.start, c.want)
		if words := byWords(l, c.start); !sameOutcomes(words, c.want) {
			t.Errorf("%s: by the words it is %v, not %v", c.text, words, c.want)
		}
	}
}

func TestP24OutcomesAreSorted(t *testing.T) {
	least, most := int64(math.MinInt64), int64(math.MaxInt64)
	l := read(t, "par { x = a } and { x = b } and { x = c } and { x = 7 }")
	start := vars("c a b x", -1, most, least, 5)
	hold(t, l, start, outcomes("a b c x", most, least, -1, least, most, least, -1, -1, most, least, -1, 7, most, least, -1, most))

	// The first name says more than the others, wherever it stands.
	l = read(t, "par { b = 1; aa = 3; a = 2 } and { a = 1; aa = 2; b = 3 }")
	hold(t, l, nil, outcomes("a aa b", 1, 2, 3, 2, 2, 3, 2, 3, 1, 2, 3, 3))
}

func TestP24NumbersRunOver(t *testing.T) {
	l := read(t, "par { x += 1 } and { y = x }")
	hold(t, l, vars("x", math.MaxInt64), outcomes("x y", math.MinInt64, math.MinInt64, math.MinInt64, math.MaxInt64))
	l = read(t, "par { x = x - 1 } and { if x { y = 1 } else { y = 2 } }")
	hold(t, l, vars("x", math.MinInt64), outcomes("x y", math.MaxInt64, 1, math.MaxInt64, 2))
	l = read(t, "par { x = x * x } and { x = x * x }")
	hold(t, l, vars("x", 1<<16), outcomes("x", 0, 1<<32))
}

// All names are told, those that are never changed too, however many.
func TestP24ManyNames(t *testing.T) {
	var start []api.Var
	for i := range 5000 {
		start = append(start, api.Var{Name: fmt.Sprintf("v%c%c%c", 'a'+i/400, 'a'+i/20%20, 'a'+i%20), N: int64(i)})
	}
	sum := name("vaaa")
	for _, v := range start[1:40] {
		sum = of(api.Sum, sum, name(v.Name))
	}
	l := list(par(list(assign("x", sum)), list(assign("vaab", num(100)))))
	one, two := slices.Clone(start), slices.Clone(start)
	one[1].N, two[1].N = 100, 100
	one, two = append(one, api.Var{Name: "x", N: 780}), append(two, api.Var{Name: "x", N: 879})
	slices.Reverse(start)
	hold(t, l, start, [][]api.Var{one, two})
}

// throw programs of at most so many parts.
func throw(seed dice, times, parts, names int, f func(l []api.Stat, start []api.Var)) {
	d := seed
	for range times {
		most := 1 + d.below(parts)
		l := d.stats(most/3, 3, names)
		l = append(l, par(d.blocks(most-partsOf(l), 3, names)...))
		l = append(l, d.stats(most-partsOf(l), 3, names)...)
		var start []api.Var
		for _, text := range []string{"y", "x", "lone"}[:d.below(4)] {
			start = append(start, api.Var{Name: text, N: int64(d.below(5) - 2)})
		}
		f(l, start)
	}
}

func TestP24WeaveAgainstTheWords(t *testing.T) {
	several, hasIf := 0, 0
	check := func(l []api.Stat, start []api.Var) {
		want := byWords(l, start)
		hold(t, l, start, want)
		if len(want) > 1 {
			several++
			hasIf += min(1, strings.Count(textOf(l), "if "))
		}
	}
	for k := range 16 {
		throw(dice(k+1), 700, 4+k/4, 1+k%4, check)
	}
	throw(17, 100, maxParts, 3, check)
	if several < 2000 || hasIf < 500 {
		t.Error("too few programs with races:", several, hasIf)
	}
}

// Each pair of blocks of two statements, and of three blocks of one, over two names.
func TestP24AllShortPrograms(t *testing.T) {
	var some []api.Stat
	for _, to := range []string{"x", "y"} {
		for _, e := range []api.Expr{num(3), of(api.Sum, name("x"), num(1)), of(api.Less, name("y"), name("x"))} {
			some = append(some, assign(to, e), add(to, e))
		}
	}
	some = append(some, when(name("x"), list(assign("y", num(5))), list(add("x", num(2)))))
	start := vars("x y", 1, -1)
	for _, a := range some {
		for _, b := range some {
			for _, c := range some {
				for _, l := range [][]api.Stat{{par(list(a), list(b), list(c))}, {par(list(a, b), list(c))}, {a, par(list(b), list(c))}, {par(list(a), list(b)), c}} {
					hold(t, l, start, byWords(l, start))
				}
			}
		}
	}
}

// Three that race for one name, alike or nearly so: they must not be taken for one another.
func TestP24NearlyAlike(t *testing.T) {
	x, y := name("x"), name("y")
	some := []api.Expr{x, num(2), num(3), of(api.Times, x, num(2)), of(api.Times, x, num(3)), of(api.Times, num(3), x), of(api.Sum, x, num(3)), of(api.Sum, x, y), of(api.Less, y, x)}
	start := vars("x y", 5, 7)
	for _, a := range some {
		for _, b := range some {
			for _, c := range some {
				for _, l := range [][]api.Stat{
					{par(list(assign("x", a)), list(assign("x", b)), list(assign("x", c)))},
					{par(list(add("x", a)), list(add("x", b)), list(add("x", c)))},
					{par(list(assign("x", a)), list(assign("x", b), add("y", c)))},
					{par(list(when(a, list(assign("x", b)), list(add("x", b)))), list(assign("x", c)))},
				} {
					hold(t, l, start, byWords(l, start))
				}
			}
		}
	}
}

// Mean does the blocks one behind the other: that may happen, too. Without races nothing else may.
func TestP24MeanIsAmongTheOutcomes(t *testing.T) {
	alone := 0
	throw(5, 4000, maxParts, 4, func(l []api.Stat, start []api.Var) {
		mean, _, _ := lang.Mean(l, start, maxParts)
		if lang.Races(l) == api.OK {
			alone++
			hold(t, l, start, [][]api.Var{mean})
			return
		}
		got, err := weave.Weave(l, start)
		if err != api.OK || !slices.ContainsFunc(got, func(o []api.Var) bool { return slices.Equal(o, mean) }) {
			t.Fatalf("%s: with %v: %v, error %d, without %v", textOf(l), start, got, err, mean)
		}
		if !slices.IsSortedFunc(got, byNumbers) || len(slices.CompactFunc(slices.Clone(got), slices.Equal[[]api.Var])) != len(got) {
			t.Fatalf("%s: with %v: not each once, in their order: %v", textOf(l), start, got)
		}
	})
	if alone < 500 {
		t.Error("too few programs without races:", alone)
	}
}

// blocks, so many of them, in a Par, and in one within that if there are too many.
func blocks(many int, block func(i int) []api.Stat) api.Stat {
	var l [][]api.Stat
	for i := range many {
		l = append(l, block(i))
	}
	if many > 8 {
		return par(append(l[:7:7], list(par(l[7:]...)))...)
	}
	return par(l...)
}

func fromTo(first, last int64) [][]api.Var {
	var l [][]api.Var
	for n := first; n <= last; n++ {
		l = append(l, vars("x", n))
	}
	return l
}

// As many parts as may be, all at one time.
func TestP24AtTheLimits(t *testing.T) {
	more := assign("x", of(api.Sum, name("x"), num(1)))
	hold(t, list(blocks(maxParts, func(int) []api.Stat { return list(more) })), nil, fromTo(1, 9))
	hold(t, list(blocks(maxParts, func(i int) []api.Stat { return list(assign("x", num(int64(i)))) })), nil, fromTo(0, 8))
	hold(t, list(blocks(maxParts, func(i int) []api.Stat { return list(add("x", num(int64(i)))) })), nil, fromTo(36, 36))
	hold(t, list(par(list(repeat(4, more)), list(repeat(5, more)))), nil, fromTo(2, 9))
	hold(t, list(par(list(repeat(3, more)), list(repeat(3, more)), list(repeat(3, more)))), nil, fromTo(2, 9))
	hold(t, list(repeat(3, par(list(more), list(more), list(more)))), nil, fromTo(3, 9))
	hold(t, list(blocks(maxParts, func(i int) []api.Stat { return list(assign("x", of(api.Sum, name("x"), num(int64(i))))) })), nil, fromTo(0, 36))
	twice := add("x", name("x"))
	got, err := weave.Weave(list(blocks(maxParts, func(int) []api.Stat { return list(twice) })), vars("x", 1))
	if err != api.OK || got[0][0].N != 10 || got[len(got)-1][0].N != 512 {
		t.Error(len(got), err)
	}
	// Each may see the one's number, or not.
	var each []api.Stat
	for i := range 8 {
		each = append(each, assign(string(rune('a'+i)), name("x")))
	}
	l := list(par(list(assign("x", num(1))), list(blocks(8, func(i int) []api.Stat { return each[i : i+1] }))))
	if got, err := weave.Weave(l, nil); err != api.OK || len(got) != 256 {
		t.Error(len(got), err)
	}
}

// Each writes a digit behind those that it found: so there comes every number of different digits, and nothing else.
func TestP24DigitsInAnyOrder(t *testing.T) {
	for digits := 1; digits <= 7; digits++ {
		l := list(blocks(digits, func(i int) []api.Stat {
			return list(assign("x", of(api.Sum, of(api.Times, name("x"), num(10)), num(int64(i+1)))))
		}))
		var want [][]api.Var
		for n := int64(1); len(want) < allOrders(digits); n++ {
			if differentDigits(n, digits) {
				want = append(want, vars("x", n))
			}
		}
		hold(t, l, nil, want)
	}
}

// allOrders: in how many ways one may take some of so many, at least one, in an order.
func allOrders(many int) int {
	n := 0
	for i := 1; i <= many; i++ {
		n = i * (n + 1)
	}
	return n
}

// differentDigits from 1 up to that one?
func differentDigits(n int64, most int) bool {
	var seen [10]bool
	for ; n > 0; n /= 10 {
		digit := n % 10
		if digit == 0 || int(digit) > most || seen[digit] {
			return false
		}
		seen[digit] = true
	}
	return true
}

// Many Assigns to few names, some in Ifs: what each writes may be read, added to, written over, or be there in the end.
func TestP24ManyAssigns(t *testing.T) {
	d := dice(6)
	for range 400 {
		var l [][]api.Stat
		for range 2 + d.below(3) {
			var block []api.Stat
			for range 1 + d.below(2) {
				s := assign(d.name(2), d.expr(2, 2))
				switch d.below(8) {
				case 0:
					s = add(d.name(2), d.expr(2, 2))
				case 1:
					s = when(d.expr(2, 2), list(s))
				}
				block = append(block, s)
			}
			l = append(l, block)
		}
		program := list(par(l...))
		if d.below(3) == 0 {
			program = append(program, assign(d.name(2), d.expr(2, 2)))
		}
		if partsOf(program) <= 7 {
			start := vars("x y", int64(d.below(7)-3), int64(d.below(7)-3))
			hold(t, program, start, byWords(program, start))
		}
	}
}

// Repeats of nothing, however nested, end at once, also beside what races.
func TestP24RepeatsOfNothing(t *testing.T) {
	never := repeat(1000)
	for range 45 {
		never = repeat(1000, never, par(nil, nil), repeat(0, assign("z", num(1))))
	}
	hold(t, list(never), nil, outcomes("z", 0))
	l := list(never, par(list(assign("x", num(1)), never), list(assign("x", num(2)))), never)
	hold(t, l, nil, outcomes("x z", 1, 0, 2, 0))
}
