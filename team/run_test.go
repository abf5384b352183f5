package team_test

import (
	"math"
	"slices"
	"strings"
	"testing"

	"lockstep/api"
	"lockstep/lang"
	"lockstep/team"
)

// holdAt: with these steps Run answers this, however many work.
func holdAt(t *testing.T, l []api.Stat, start, want []api.Var, took, steps int) {
	t.Helper()
	for workers := 1; workers <= api.MaxWorkers; workers++ {
		if got, n, err := team.Run(l, start, steps, workers); err != api.OK || n != took || !slices.Equal(got, want) {
			t.Fatalf("%.500s: with %v, %d steps and %d workers: %v, %d steps, error %d, not %v, %d steps", textOf(l), start, steps, workers, got, n, err, want, took)
		}
	}
}

// holdTooFew: with these steps Run says that it is too large, however many work.
func holdTooFew(t *testing.T, l []api.Stat, start []api.Var, steps int) {
	t.Helper()
	for workers := 1; workers <= api.MaxWorkers; workers++ {
		holdError(t, "too few steps", l, start, steps, workers, api.ErrLarge)
	}
}

// hold: Run answers this, if it may take as many steps, or more; with fewer it says that it is too large.
func hold(t *testing.T, l []api.Stat, start, want []api.Var, took int) {
	t.Helper()
	for _, steps := range []int{took, took + 1, math.MaxInt32, math.MaxInt} {
		holdAt(t, l, start, want, took, steps)
	}
	for _, steps := range []int{0, 1, took / 2, took - 1} {
		if steps >= 0 && steps < took {
			holdTooFew(t, l, start, steps)
		}
	}
}

func TestP25RunSmall(t *testing.T) {
	cases := []struct {
		text        string
		start, want []api.Var
		took        int
	}{
		{"", nil, nil, 0},
		{"", vars("b a", 1, 2), vars("a b", 2, 1), 0},
		{"x = 1; par { x += 2 } and { y = 3 }", nil, vars("x y", 3, 3), 3},
		{"x = 5", vars("x", 7), vars("x", 5), 1},
		{"x += 5", vars("x", 7), vars("x", 12), 1},
		{"x = y - z", vars("z y", 5, 3), vars("x y z", -2, 3, 5), 1},
		{"x += x * 2 + x", vars("x", 5), vars("x", 20), 1},
		{"x = 2; y = x * x; x = 3", nil, vars("x y", 3, 4), 3},
		{"par { x = 1 } and { y = 2 }; z = x + y", nil, vars("x y z", 1, 2, 3), 3},
		{"par { x += 1 } and { x += 2 } and { x += 3 }; y = x", vars("x", 10), vars("x y", 16, 16), 4},
		{"par { x += y } and { x += y * y } and { z = y }", vars("y", 3), vars("x y z", 12, 3, 3), 3},
		{"par { x = 1; y = x; x = y + 1 } and { z = 5; w = z }; par { x += z } and { y += w }", nil, vars("w x y z", 5, 7, 6, 5), 7},
		{"par { par { x += 1 } and { y += 1 } } and { par { x += 2 } and { y += 2 }; z = 1 }; z += x * y", nil, vars("x y z", 3, 3, 10), 6},
		{"par { } and { par { x = 7 } and { } }", nil, vars("x", 7), 1},
		{"par { }; par { } and { }; par { x = 1 }", nil, vars("x", 1), 1},
		{"if 1 { par { x = 1 } and { y = 1 } }; x += y", nil, vars("x y", 2, 1), 4},
		{"if 0 { x = 1 } else { par { x = 2 } and { y = 3 } }", nil, vars("x y", 2, 3), 3},
		{"if 0 - 1 { par { x = 1 } and { y = 1 } }", nil, vars("x y", 0, 0), 1},
		{"par { if z { x = 1 } else { x = 2 } } and { if z - 1 { y = 1 } else { y = 2 } }", vars("z", 1), vars("x y z", 1, 2, 1), 4},
		{"if y { } else { }; if z { }", nil, vars("y z", 0, 0), 2},
		{"par { if x { } } and { if x { } else { } }", nil, vars("x", 0), 2},
		{"repeat 0 { par { x = y } and { z = y } }", nil, vars("x y z", 0, 0, 0), 0},
		{"repeat 5 { par { x += 2 } and { x += 3 } and { y = y + 1 } }", nil, vars("x y", 25, 5), 15},
		{"repeat 3 { par { x = x + 1 } and { z = y } ; y = x }", nil, vars("x y z", 3, 3, 2), 9},
		{"par { repeat 3 { x = 2 * x } } and { repeat 4 { y = 3 * y } }", vars("x y", 1, 1), vars("x y", 8, 81), 7},
		{"par { repeat 2 { repeat 3 { x += 1 }; par { y += x } and { y += 1 } } } and { z += 1 }", nil, vars("x y z", 6, 11, 1), 11},
		{"repeat 3 { }; x = 1; repeat 1000 { par { } and { repeat 0 { x = 2 } } }", nil, vars("x", 1), 1},
		{"par { x += 1 } and { x += y }", vars("x y", math.MaxInt64, math.MaxInt64), vars("x y", -1<<63+math.MaxInt64, math.MaxInt64), 2},
		{"par { x = y - 1 } and { z = y * y }", vars("y", math.MinInt64), vars("x y z", math.MaxInt64, math.MinInt64, 0), 2},
		{"repeat 63 { x += x }", vars("x", 1), vars("x", math.MinInt64), 63},
		{"par { b = 1; ab = 2 } and { a = 3; abc = 4; ba = 5 }", vars("aa z", 6, 7), vars("a aa ab abc b ba z", 3, 6, 2, 4, 1, 5, 7), 5},
		{"if 0 { never = unread }", vars("alone", 1), vars("alone never unread", 1, 0, 0), 1},
		{"par { x = 1 } and { y = 1 } and { z = 1 } and { u = 1 } and { v = 1 } and { w = 1 } and { r = 1 } and { s = 1 }", nil, vars("r s u v w x y z", 1, 1, 1, 1, 1, 1, 1, 1), 8},
	}
	for _, c := range cases {
		hold(t, read(t, c.text), c.start, c.want, c.took)
	}
}

// What one block assigns, adds to or reads the blocks of another Par may use, too.
func TestP25OneParBehindAnother(t *testing.T) {
	l := read(t, "par { a = 1 } and { b = 2 } and { c += 3 }; par { d = a + b } and { e = b + c } and { f += a }; par { a = d } and { b = e } and { c = f }")
	hold(t, l, nil, vars("a b c d e f", 3, 5, 1, 3, 5, 1), 9)
	swap := read(t, "repeat 100 { par { p = b } and { q = a + b }; par { a = p } and { b = q } }")
	want, took, _ := lang.Mean(swap, vars("b", 1), 1000)
	hold(t, swap, vars("b", 1), want, took)
}

// holdMean: Run answers as Mean does. More than most steps are too many.
func holdMean(t *testing.T, l []api.Stat, start []api.Var, most int) {
	t.Helper()
	want, took, err := lang.Mean(l, start, most)
	switch err {
	case api.OK:
		holdAt(t, l, start, want, took, took)
		holdAt(t, l, start, want, took, most)
		if took > 0 {
			holdTooFew(t, l, start, took-1)
		}
	case api.ErrLarge:
		holdTooFew(t, l, start, most)
	default:
		t.Fatalf("%.500s: with %v: Mean says %d", textOf(l), start, err)
	}
}

func TestP25RunIsWhatMeanSays(t *testing.T) {
	d := dice(1)
	names := free("x y ab a b c zz u v w")
	steps, parts, fit := 0, 0, 0
	for range 600 {
		l := d.stats(names, 4, 4)
		start := d.start(names.own)
		switch err := lang.Races(l); err {
		case api.OK:
			fit++
		case api.ErrLarge:
			continue
		default:
			t.Fatalf("%.500s: the dice throw error %d", textOf(l), err)
		}
		_, took, _ := lang.Mean(l, start, 2000)
		steps, parts = steps+took, parts+strings.Count(textOf(l), "and {")
		holdMean(t, l, start, 2000)
	}
	if fit < 400 || steps < 10000 || parts < 5000 {
		t.Error("the dice throw too little:", fit, steps, parts)
	}
}

// Programs of few names, many of which have races: then that is the answer.
func TestP25RunOfAnyPrograms(t *testing.T) {
	d := dice(2)
	races := 0
	for range 3000 {
		l := d.any(3, 3)
		if err := lang.Races(l); err != api.OK {
			races++
			holdError(t, "thrown", l, nil, 1000, 1+d.below(16), err)
			continue
		}
		holdMean(t, l, vars("y x", 1, 2), 1000)
	}
	if races < 500 || races > 2500 {
		t.Error("races:", races)
	}
}

// any statements, whatever races there are.
func (d *dice) any(many, depth int) []api.Stat {
	all := free("x y z u v w")
	l := d.stats(all, many, 1)
	if depth > 1 {
		for range d.below(3) {
			l = append(l, par(d.any(many-1, depth-1), d.any(many-1, depth-1)))
		}
	}
	return l
}

// With each number of steps that is too small it is too large, whoever comes first.
func TestP25EachNumberOfSteps(t *testing.T) {
	l := read(t, "x = 3; repeat 4 { if x { x += 0 - 1; par { y += 1 } and { y += 1 } } else { par { repeat 2 { z = z + y } } and { w += y } } }")
	want, took, _ := lang.Mean(l, nil, 1000)
	if took != 17 {
		t.Fatal(want, took)
	}
	for steps := range took {
		holdTooFew(t, l, nil, steps)
	}
	hold(t, l, nil, want, took)
}

// However the steps are told of, all are counted.
func TestP25StepsOfAnyNumber(t *testing.T) {
	d := dice(3)
	for _, about := range []int{0, 95, 195, 495, 995} {
		for took := about; took <= about+10; took++ {
			l := slices.Repeat(list(repeat(int64(took/2), add("x", num(1)))), 2)
			if took%2 == 1 {
				l = append(l, add("x", num(1)))
			}
			hold(t, l, nil, vars("x", int64(took)), took)
			first := d.below(took + 1)
			parts := list(par(list(repeat(int64(first), add("x", num(1)))), list(repeat(int64(took-first), add("x", num(1))))))
			hold(t, parts, nil, vars("x", int64(took)), took)
		}
	}
}

// No effect is lost: many add to one variable at a time.
func TestP25NoEffectIsLost(t *testing.T) {
	l := read(t, "repeat 20 { repeat 50 { par { x += 1 } and { x += 2 } and { y += z; x += z } } }")
	holdAt(t, l, vars("z", 5), vars("x y z", 8000, 5000, 5), 4000, 4000)
	block := "{ repeat 20 { repeat 1000 { x += 1; y += 3 } } }"
	wide := read(t, "par "+block+strings.Repeat(" and "+block, 7))
	holdAt(t, wide, nil, vars("x y", 160000, 480000), 320000, 320000)
	holdTooFew(t, wide, nil, 319999)
}

func TestP25RunAtTheLimits(t *testing.T) {
	hold(t, slices.Repeat(read(t, "x += 1"), api.MaxOps/2), nil, vars("x", api.MaxOps/2), api.MaxOps/2)
	hold(t, read(t, nested("if 1 { ", "x += 1", " }", 48)), nil, vars("x", 1), 49)
	hold(t, read(t, nested("par { x += 1 } and { ", "x += 1", " }", 48)), nil, vars("x", 49), 49)
	hold(t, slices.Repeat(list(par(nil, nil)), api.MaxOps), nil, nil, 0)
	million := read(t, "repeat 1000 { repeat 500 { par { x += 1 } and { y = y + 1 } } }")
	if got, took, err := team.Run(million, nil, 1000000, 4); err != api.OK || took != 1000000 || !slices.Equal(got, vars("x y", 500000, 500000)) {
		t.Error(got, took, err)
	}
	holdError(t, "a million", million, nil, 999999, 4, api.ErrLarge)
	var start []api.Var
	for n := range 26 * 26 * 26 {
		start = append(start, api.Var{Name: string([]byte{'a' + byte(n%26), 'a' + byte(n/26%26), 'a' + byte(n/26/26)}), N: int64(n)})
	}
	start = slices.DeleteFunc(start, func(v api.Var) bool { return v.Name == "par" || v.Name == "and" })
	want := slices.Clone(start)
	slices.SortFunc(want, func(a, b api.Var) int { return strings.Compare(a.Name, b.Name) })
	hold(t, nil, start, want, 0)
}

// bush: Pars of eight blocks within one another, as many as fit, all of which are ready at about one time.
func bush(levels int) []api.Stat {
	if levels == 0 {
		return list(add("x", num(1)))
	}
	return list(par(slices.Repeat([][]api.Stat{bush(levels - 1)}, 8)...))
}

func TestP25AsManyBlocksAsMayBe(t *testing.T) {
	hold(t, bush(2), nil, vars("x", 64), 64)
	l := list(par(bush(2), bush(2), bush(2), bush(2), bush(2), bush(1)))
	for range 4 {
		l = append(l, par(bush(1), bush(0)))
	}
	hold(t, l, nil, vars("x", 5*64+8+36), 5*64+8+36)
	// 333 blocks, each within the one ahead of it or beside it.
	var deep []api.Stat
	for range 47 {
		deep = list(par(deep, bush(0), bush(0), bush(0), bush(0), bush(0), bush(0), bush(0)))
	}
	hold(t, deep, nil, vars("x", 47*7), 47*7)
	hold(t, list(repeat(30, deep...)), nil, vars("x", 30*47*7), 30*47*7)
}

// What takes no steps is done at once, however often; what takes far too many need not be begun.
func TestP1RunEndsHoweverOften(t *testing.T) {
	often := func(within string) []api.Stat {
		return read(t, nested("repeat 1000 { ", within, " }", 47))
	}
	hold(t, often(""), nil, nil, 0)
	hold(t, often("par { } and { }"), nil, nil, 0)
	hold(t, often("repeat 0 { x = y }"), nil, vars("x y", 0, 0), 0)
	hold(t, read(t, nested("repeat 1000 { par { } and { ", "", " } }", 25)), nil, nil, 0)
	hold(t, read(t, "x = 1; repeat 3 { par { x += 1 } and { "+nested("repeat 1000 { ", "", " }", 47)+" } }"), nil, vars("x", 4), 4)
	hold(t, read(t, "par { if 0 { "+nested("repeat 1000 { ", "x += 1", " }", 46)+" } } and { y = 1 }"), nil, vars("x y", 0, 1), 2)
	for _, within := range []string{"x += 1", "if 0 { }", "if x { } else { }", "par { x += 1 } and { y = 1 }"} {
		for levels := 7; levels <= 47; levels += 5 {
			l := read(t, nested("repeat 1000 { ", within, " }", levels))
			for _, steps := range []int{0, 1, 999, 100000, math.MaxInt32, math.MaxInt64} {
				holdError(t, within, l, nil, steps, 3, api.ErrLarge)
			}
		}
	}
	// What it would need is not known ahead, but the steps are soon too few, for all blocks.
	endless := nested("repeat 1000 { ", "if x { y += 1 }", " }", 10)
	holdTooFew(t, read(t, "x = 1; if x { par { "+endless+" } and { "+endless+" } and { "+endless+" } }"), nil, 5000)
}
