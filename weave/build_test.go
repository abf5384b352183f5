package weave_test

import (
	"slices"
	"strings"
	"testing"

	"lockstep/api"
	"lockstep/lang"
	"lockstep/weave"
)

// maxParts: so many Assigns, Adds and Ifs the document allows.
const maxParts = 9

func num(n int64) api.Expr { return api.Expr{Kind: api.Number, N: n} }

func name(text string) api.Expr { return api.Expr{Kind: api.Name, Name: text} }

func of(kind int, kids ...api.Expr) api.Expr { return api.Expr{Kind: kind, Kids: kids} }

func assign(to string, e api.Expr) api.Stat { return api.Stat{Kind: api.Assign, Name: to, E: e} }

func add(to string, e api.Expr) api.Stat { return api.Stat{Kind: api.Add, Name: to, E: e} }

func list(l ...api.Stat) []api.Stat { return l }

func when(e api.Expr, blocks ...[]api.Stat) api.Stat {
	return api.Stat{Kind: api.If, E: e, Blocks: blocks}
}

func repeat(times int64, block ...api.Stat) api.Stat {
	return api.Stat{Kind: api.Repeat, N: times, Blocks: [][]api.Stat{block}}
}

func par(blocks ...[]api.Stat) api.Stat { return api.Stat{Kind: api.Par, Blocks: blocks} }

// read a text that is a program.
func read(t *testing.T, text string) []api.Stat {
	t.Helper()
	l, fault := lang.Read(text)
	if fault.Code != api.OK {
		t.Fatalf("%q is no program: %v", text, fault)
	}
	return l
}

func textOf(l []api.Stat) string {
	text, _ := lang.Write(l)
	return text
}

// vars: names with the numbers behind them.
func vars(names string, numbers ...int64) []api.Var {
	var l []api.Var
	for i, text := range strings.Fields(names) {
		l = append(l, api.Var{Name: text, N: numbers[i]})
	}
	return l
}

// outcomes: the names, with as many numbers again and again.
func outcomes(names string, numbers ...int64) [][]api.Var {
	var l [][]api.Var
	for some := range slices.Chunk(numbers, len(strings.Fields(names))) {
		l = append(l, vars(names, some...))
	}
	return l
}

func sameOutcomes(a, b [][]api.Var) bool { return slices.EqualFunc(a, b, slices.Equal[[]api.Var]) }

// hold: Weave answers these outcomes.
func hold(t *testing.T, l []api.Stat, start []api.Var, want [][]api.Var) {
	t.Helper()
	if got, err := weave.Weave(l, start); err != api.OK || !sameOutcomes(got, want) {
		t.Fatalf("%.500s: with %v: %v, error %d, not %v", textOf(l), start, got, err, want)
	}
}

// holdError: Weave says this error, and nothing beside it.
func holdError(t *testing.T, what string, l []api.Stat, start []api.Var, want api.Errno) {
	t.Helper()
	got, err := weave.Weave(l, start)
	if err != want || err != api.OK && got != nil {
		t.Errorf("%s: with %v: %v, error %d, not %d", what, start, got, err, want)
	}
}

// dice gives numbers that are the same in every run of the tests.
type dice uint64

func (d *dice) below(n int) int {
	*d = *d*6364136223846793005 + 1442695040888963407
	return int(uint64(*d) >> 33 % uint64(n))
}

// name: one of so many.
func (d *dice) name(names int) string { return []string{"x", "y", "ab", "a"}[d.below(names)] }

// expr of a height of at most so much.
func (d *dice) expr(height, names int) api.Expr {
	if height <= 1 || d.below(3) == 0 {
		if d.below(3) == 0 {
			return num(int64(d.below(4)))
		}
		return name(d.name(names))
	}
	return of(api.Sum+d.below(3), d.expr(height-1, names), d.expr(height-1, names))
}

// stats of at most so many parts, nested at most so deep.
func (d *dice) stats(parts, depth, names int) []api.Stat {
	var l []api.Stat
	for parts > 0 && d.below(5) > 0 {
		s := d.stat(parts, depth, names)
		l = append(l, s)
		parts -= partsOf(list(s))
	}
	return l
}

func (d *dice) stat(parts, depth, names int) api.Stat {
	kind := d.below(10)
	if depth <= 1 {
		kind %= 4
	}
	switch kind {
	case 0, 1:
		return assign(d.name(names), d.expr(3, names))
	case 2, 3:
		return add(d.name(names), d.expr(3, names))
	case 4:
		return when(d.expr(2, names), d.stats(parts-1, depth-1, names))
	case 5:
		return when(d.expr(2, names), d.stats(parts/2, depth-1, names), d.stats((parts-1)/2, depth-1, names))
	case 6:
		times := d.below(4)
		return repeat(int64(times), d.stats(parts/max(times, 1), depth-1, names)...)
	}
	return par(d.blocks(parts, depth-1, names)...)
}

// blocks of at most so many parts together. Often one is as the one ahead of it.
func (d *dice) blocks(parts, depth, names int) [][]api.Stat {
	blocks := [][]api.Stat{d.stats(max(parts/2, 1), depth, names)}
	left := parts - partsOf(blocks[0])
	for left > 0 && len(blocks) < 8 && d.below(6) > 0 {
		block := blocks[len(blocks)-1]
		if d.below(2) == 0 || partsOf(block) > left {
			block = d.stats(max(left/2, 1), depth, names)
		}
		blocks = append(blocks, block)
		left -= partsOf(block)
	}
	return blocks
}

// partsOf a program, as the document counts them; it must be small.
func partsOf(l []api.Stat) int {
	n := 0
	for _, s := range l {
		inner := 0
		for _, block := range s.Blocks {
			inner += partsOf(block)
		}
		switch s.Kind {
		case api.Repeat:
			n += inner * int(s.N)
		case api.Par:
			n += inner
		default:
			n += inner + 1
		}
	}
	return n
}
