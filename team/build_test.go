package team_test

import (
	"slices"
	"strings"
	"testing"

	"lockstep/api"
	"lockstep/lang"
)

func num(n int64) api.Expr { return api.Expr{Kind: api.Number, N: n} }

func name(text string) api.Expr { return api.Expr{Kind: api.Name, Name: text} }

func of(kind int, kids ...api.Expr) api.Expr { return api.Expr{Kind: kind, Kids: kids} }

func assign(to string, e api.Expr) api.Stat { return api.Stat{Kind: api.Assign, Name: to, E: e} }

func add(to string, e api.Expr) api.Stat { return api.Stat{Kind: api.Add, Name: to, E: e} }

func list(l ...api.Stat) []api.Stat { return l }

func when(e api.Expr, blocks ...[]api.Stat) api.Stat {
	return api.Stat{Kind: api.If, E: e, Blocks: blocks}
}

func repeat(times int64, block ...api.Stat) api.Stat {
	return api.Stat{Kind: api.Repeat, N: times, Blocks: [][]api.Stat{block}}
}

func par(blocks ...[]api.Stat) api.Stat { return api.Stat{Kind: api.Par, Blocks: blocks} }

// read a text that is a program.
func read(t *testing.T, text string) []api.Stat {
	t.Helper()
	l, fault := lang.Read(text)
	if fault.Code != api.OK {
		t.Fatalf("%q is no program: %v", text, fault)
	}
	return l
}

func textOf(l []api.Stat) string {
	text, _ := lang.Write(l)
	return text
}

// nested: so many times what is ahead and behind, about what is within.
func nested(ahead, within, behind string, many int) string {
	return strings.Repeat(ahead, many) + within + strings.Repeat(behind, many)
}

// vars: names with the numbers behind them.
func vars(names string, numbers ...int64) []api.Var {
	var l []api.Var
	for i, text := range strings.Fields(names) {
		l = append(l, api.Var{Name: text, N: numbers[i]})
	}
	return l
}

// dice gives numbers that are the same in every run of the tests.
type dice uint64

func (d *dice) below(n int) int {
	*d = *d*6364136223846793005 + 1442695040888963407
	return int(uint64(*d) >> 33 % uint64(n))
}

func (d *dice) one(names []string) string { return names[d.below(len(names))] }

// rights of a block: the names that it may use as it likes, those that it may but read, and those to which it may but add.
type rights struct{ own, read, plus []string }

// free: all may be done with these.
func free(names string) rights { return rights{own: strings.Fields(names)} }

// share the rights among blocks, so that there is no race between them.
func (d *dice) share(r rights, blocks int) []rights {
	common := rights{read: slices.Clone(r.read), plus: slices.Clone(r.plus)}
	owners := make([][]string, blocks)
	for _, text := range r.own {
		switch at := d.below(blocks); d.below(5) {
		case 0:
			common.read = append(common.read, text)
		case 1:
			common.plus = append(common.plus, text)
		default:
			owners[at] = append(owners[at], text)
		}
	}
	shares := make([]rights, blocks)
	for i := range shares {
		shares[i] = rights{owners[i], common.read, common.plus}
	}
	return shares
}

// expr of a height of at most so much, which reads what may be read.
func (d *dice) expr(r rights, height int) api.Expr {
	names := slices.Concat(r.own, r.read)
	switch {
	case height > 1 && d.below(3) > 0:
		return of(api.Sum+d.below(3), d.expr(r, height-1), d.expr(r, height-1))
	case len(names) == 0 || d.below(3) == 0:
		return num(int64(d.below(4)))
	}
	return name(d.one(names))
}

// stats: statements, at most so many in one list, nested at most so deep.
func (d *dice) stats(r rights, many, depth int) []api.Stat {
	var l []api.Stat
	for range d.below(many + 1) {
		l = append(l, d.stat(r, many, depth))
	}
	return l
}

func (d *dice) stat(r rights, many, depth int) api.Stat {
	kind := d.below(10)
	if depth <= 1 {
		kind %= 4
	}
	added := slices.Concat(r.own, r.plus)
	switch {
	case kind < 2 && len(r.own) > 0:
		return assign(d.one(r.own), d.expr(r, 3))
	case kind < 4 && len(added) > 0:
		return add(d.one(added), d.expr(r, 3))
	case kind < 4:
		return repeat(int64(d.below(3)))
	case kind == 4:
		return when(d.expr(r, 2), d.stats(r, many, depth-1))
	case kind == 5:
		return when(d.expr(r, 2), d.stats(r, many, depth-1), d.stats(r, many, depth-1))
	case kind == 6:
		return repeat(int64(d.below(4)), d.stats(r, many, depth-1)...)
	}
	return par(d.blocks(r, many, depth-1)...)
}

// blocks between which there is no race.
func (d *dice) blocks(r rights, many, depth int) [][]api.Stat {
	var blocks [][]api.Stat
	for _, part := range d.share(r, 1+d.below(8)) {
		blocks = append(blocks, d.stats(part, many, depth))
	}
	return blocks
}

// start: some of the names, in any order, with any numbers.
func (d *dice) start(names []string) []api.Var {
	var l []api.Var
	for range d.below(len(names) + 1) {
		v := api.Var{Name: d.one(names), N: []int64{0, 1, -1, 5, -7, 1<<63 - 1, -1 << 63, 1 << 33}[d.below(8)]}
		if !slices.ContainsFunc(l, func(other api.Var) bool { return other.Name == v.Name }) {
			l = append(l, v)
		}
	}
	return l
}
