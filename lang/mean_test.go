package lang_test

import (
	"math"
	"slices"
	"strings"
	"testing"

	"lockstep/api"
	"lockstep/lang"
)

// hold: Mean answers this, if it may take as many steps, or more; with fewer it says that it is too large.
func hold(t *testing.T, l []api.Stat, start, want []api.Var, took int) {
	t.Helper()
	for _, steps := range []int{took, took + 1, math.MaxInt32, math.MaxInt} {
		if vars, n, err := lang.Mean(l, start, steps); err != api.OK || n != took || !slices.Equal(vars, want) {
			t.Fatalf("%.200s: with %v and %d steps: %v, %d steps, error %d, not %v, %d steps", byWords(l), start, steps, vars, n, err, want, took)
		}
	}
	for _, steps := range []int{0, 1, took / 2, took - 1} {
		if steps >= 0 && steps < took {
			holdMean(t, "too few steps", l, start, steps, api.ErrLarge)
		}
	}
}

// vars: names with the numbers behind them.
func vars(names string, numbers ...int64) []api.Var {
	var l []api.Var
	for i, text := range strings.Fields(names) {
		l = append(l, api.Var{Name: text, N: numbers[i]})
	}
	return l
}

func TestP23MeanSmall(t *testing.T) {
	cases := []struct {
		text        string
		start, want []api.Var
		took        int
	}{
		{"", nil, nil, 0},
		{"", vars("b a", 1, 2), vars("a b", 2, 1), 0},
		{"x = 1; par { x += 2 } and { y = 3 }", nil, vars("x y", 3, 3), 3},
		{"x = 5", vars("x", 7), vars("x", 5), 1},
		{"x += 5", vars("x", 7), vars("x", 12), 1},
		{"x += 5", nil, vars("x", 5), 1},
		{"x = y + z", nil, vars("x y z", 0, 0, 0), 1},
		{"x = y - z", vars("z y", 5, 3), vars("x y z", -2, 3, 5), 1},
		{"x = y * z - 1", vars("y z", -4, 3), vars("x y z", -13, -4, 3), 1},
		{"x += x * 2 + x", vars("x", 5), vars("x", 20), 1},
		{"x = 2; y = x * x; x = 3", nil, vars("x y", 3, 4), 3},
		{"par { x = 1 } and { x = 2 }", nil, vars("x", 2), 2},
		{"par { x = 2 } and { x = 1 } and { x += x } and { y = x }", nil, vars("x y", 2, 2), 4},
		{"par { } and { par { x = 7 } and { } }", nil, vars("x", 7), 1},
		{"if 1 { x = 1 }", nil, vars("x", 1), 2},
		{"if 0 { x = 1 }", nil, vars("x", 0), 1},
		{"if 0 - 1 { x = 1 }", nil, vars("x", 0), 1},
		{"if 1 { x = 1 } else { x = 2; y = 3 }", nil, vars("x y", 1, 0), 2},
		{"if 0 { x = 1 } else { x = 2; y = 3 }", nil, vars("x y", 2, 3), 3},
		{"if y { x = 1 } else { x = 2 }", vars("y", -1), vars("x y", 2, -1), 2},
		{"if y { x = 1 } else { x = 2 }", vars("y", math.MinInt64), vars("x y", 2, math.MinInt64), 2},
		{"if y { x = 1 } else { x = 2 }", vars("y", math.MaxInt64), vars("x y", 1, math.MaxInt64), 2},
		{"if y { } else { }; if z { }", nil, vars("y z", 0, 0), 2},
		{"if x { x = 0; y += 1 } else { y += 10 }", vars("x", 1), vars("x y", 0, 1), 3},
		{"repeat 0 { x = y }", nil, vars("x y", 0, 0), 0},
		{"repeat 5 { x += 2 }", nil, vars("x", 10), 5},
		{"repeat 1000 { x += 1 }", nil, vars("x", 1000), 1000},
		{"repeat 3 { repeat 4 { x += 1 }; y += x }", nil, vars("x y", 12, 24), 15},
		{"repeat 4 { if x - 1 { y += 1 } else { x += 1 } }", nil, vars("x y", 2, 2), 8},
		{"repeat 3 { }; x = 1; repeat 1000 { par { } and { repeat 0 { x = 2 } } }", nil, vars("x", 1), 1},
		{"a = 1; x = x * x * x", vars("x", 1<<40), vars("a x", 1, 0), 2},
		{"x += 1", vars("x", math.MaxInt64), vars("x", math.MinInt64), 1},
		{"x = y - 1", vars("y", math.MinInt64), vars("x y", math.MaxInt64, math.MinInt64), 1},
		{"x = y * y", vars("y", math.MaxInt64), vars("x y", 1, math.MaxInt64), 1},
		{"repeat 64 { x += x }", vars("x", 1), vars("x", 0), 64},
		{"repeat 63 { x += x }", vars("x", 1), vars("x", math.MinInt64), 63},
		{"b = 1; ab = 2; a = 3; abc = 4; ba = 5", vars("aa z", 6, 7), vars("a aa ab abc b ba z", 3, 6, 2, 4, 1, 5, 7), 5},
		{"if 0 { never = unread }", vars("alone", 1), vars("alone never unread", 1, 0, 0), 1},
	}
	for _, c := range cases {
		hold(t, read(t, c.text), c.start, c.want, c.took)
	}
}

// meaning: one statement behind the other, by the words. It ends when there are more steps than most.
type meaning struct {
	numbers     map[string]int64
	steps, most int
}

func (m *meaning) all(l []api.Stat) {
	for _, s := range l {
		if m.steps > m.most {
			return
		}
		switch s.Kind {
		case api.Assign:
			m.steps++
			m.numbers[s.Name] = m.value(s.E)
		case api.Add:
			m.steps++
			m.numbers[s.Name] = m.numbers[s.Name] + m.value(s.E)
		case api.If:
			m.steps++
			if m.value(s.E) > 0 {
				m.all(s.Blocks[0])
			} else if len(s.Blocks) == 2 {
				m.all(s.Blocks[1])
			}
		case api.Repeat:
			for range s.N {
				m.all(s.Blocks[0])
			}
		case api.Par:
			for _, block := range s.Blocks {
				m.all(block)
			}
		}
	}
}

func (m *meaning) value(e api.Expr) int64 {
	switch e.Kind {
	case api.Number:
		return e.N
	case api.Name:
		return m.numbers[e.Name]
	case api.Sum:
		return m.value(e.Kids[0]) + m.value(e.Kids[1])
	case api.Less:
		return m.value(e.Kids[0]) - m.value(e.Kids[1])
	}
	return m.value(e.Kids[0]) * m.value(e.Kids[1])
}

// outcome of a program by its meaning: all names that stand anywhere, sorted.
func outcome(l []api.Stat, start []api.Var, most int) (vars []api.Var, took int) {
	m := meaning{numbers: map[string]int64{}, most: most}
	var seen three
	seen.see(l)
	for _, text := range slices.Concat(seen.assigned, seen.added, seen.read) {
		m.numbers[text] = 0
	}
	for _, v := range start {
		m.numbers[v.Name] = v.N
	}
	m.all(l)
	for text, n := range m.numbers {
		vars = append(vars, api.Var{Name: text, N: n})
	}
	slices.SortFunc(vars, func(a, b api.Var) int { return strings.Compare(a.Name, b.Name) })
	return vars, m.steps
}

// start: some of the names, in any order, with any numbers.
func (d *dice) start(names int) []api.Var {
	var l []api.Var
	for range d.below(names + 1) {
		v := api.Var{Name: d.name(names), N: []int64{0, 1, -1, 5, -7, math.MaxInt64, math.MinInt64, 1 << 33}[d.below(8)]}
		if !slices.ContainsFunc(l, func(other api.Var) bool { return other.Name == v.Name }) {
			l = append(l, v)
		}
	}
	return l
}

func TestP23MeanThrown(t *testing.T) {
	const most = 5000
	d := dice(41)
	took := 0
	throw(t, 40, 3000, 10, func(l []api.Stat) {
		start := d.start(10)
		want, steps := outcome(l, start, most)
		if steps > most {
			holdMean(t, "thrown", l, start, most, api.ErrLarge)
			return
		}
		took = max(took, steps)
		hold(t, l, start, want, steps)
	})
	if took < 100 {
		t.Error("the programs that are thrown take too few steps:", took)
	}
}

// Steps are counted one by one: with each number of them that is too small it is too large.
func TestP23MeanEachNumberOfSteps(t *testing.T) {
	l := read(t, "x = 3; repeat 4 { if x { x += 0 - 1; par { y += 1 } and { y += 1 } } else { repeat 2 { z = z + y } } }")
	want, took := outcome(l, nil, 1000)
	if took != 16 {
		t.Fatal(want, took)
	}
	for steps := range took {
		holdMean(t, "too few", l, nil, steps, api.ErrLarge)
	}
	hold(t, l, nil, want, took)
}

func TestP23MeanAtTheLimits(t *testing.T) {
	l := slices.Repeat(read(t, "x += 1"), api.MaxOps/2)
	hold(t, l, nil, vars("x", api.MaxOps/2), api.MaxOps/2)
	e := sums(api.MaxOps - 1)
	hold(t, list(assign("x", e)), nil, vars("x", api.MaxOps/2), 1)
	deep := read(t, nested("if 1 { ", "x += 1", " }", maxDepth-2))
	hold(t, deep, nil, vars("x", 1), maxDepth-1)
	million := read(t, "repeat 1000 { repeat 1000 { x += 1 } }")
	hold(t, million, nil, vars("x", 1000000), 1000000)
	var start []api.Var
	for n := range 26 * 26 * 26 {
		start = append(start, api.Var{Name: string([]byte{'a' + byte(n%26), 'a' + byte(n/26%26), 'a' + byte(n/26/26)}), N: int64(n)})
	}
	start = slices.DeleteFunc(start, func(v api.Var) bool { return v.Name == "par" || v.Name == "and" })
	want := slices.Clone(start)
	slices.SortFunc(want, func(a, b api.Var) int { return strings.Compare(a.Name, b.Name) })
	hold(t, nil, start, want, 0)
}

// What takes no steps is done at once, however often; what takes far too many need not be begun.
func TestP1MeanEndsHoweverOften(t *testing.T) {
	often := func(within string) []api.Stat {
		return read(t, nested("repeat 1000 { ", within, " }", maxDepth-2))
	}
	hold(t, often(""), nil, nil, 0)
	hold(t, often("par { } and { }"), nil, nil, 0)
	hold(t, often("repeat 0 { }; par { }"), nil, nil, 0)
	hold(t, read(t, nested("repeat 1000 { par { } and { ", "", " } }", maxDepth/2)), nil, nil, 0)
	hold(t, read(t, nested("repeat 1000 { ", "repeat 0 { x = y }", " }", maxDepth-3)), nil, vars("x y", 0, 0), 0)
	hold(t, read(t, "x = 1; repeat 3 { "+nested("repeat 1000 { ", "", " }", maxDepth-2)+"; x += 1 }"), nil, vars("x", 4), 4)
	hold(t, read(t, "if 0 { "+nested("repeat 1000 { ", "x += 1", " }", maxDepth-3)+" }"), nil, vars("x", 0), 1)
	for _, within := range []string{"x += 1", "if 0 { }", "if x { } else { }", "par { } and { x = 1 }"} {
		for levels := 7; levels <= maxDepth-3; levels++ {
			l := read(t, nested("repeat 1000 { ", within, " }", levels))
			for _, steps := range []int{0, 1, 999, 100000, math.MaxInt32, math.MaxInt64} {
				holdMean(t, within, l, nil, steps, api.ErrLarge)
			}
		}
	}
}
