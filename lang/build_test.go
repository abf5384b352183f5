package lang_test

import (
	"slices"

	"lockstep/api"
)

// What the document allows, and package api has no name for.
const (
	maxNumber = 1000000000
	maxTimes  = 1000
	maxBlocks = 8
	maxDepth  = 50
)

func num(n int64) api.Expr { return api.Expr{Kind: api.Number, N: n} }

func name(text string) api.Expr { return api.Expr{Kind: api.Name, Name: text} }

func of(kind int, kids ...api.Expr) api.Expr { return api.Expr{Kind: kind, Kids: kids} }

func assign(to string, e api.Expr) api.Stat { return api.Stat{Kind: api.Assign, Name: to, E: e} }

func add(to string, e api.Expr) api.Stat { return api.Stat{Kind: api.Add, Name: to, E: e} }

func list(l ...api.Stat) []api.Stat { return l }

func when(e api.Expr, blocks ...[]api.Stat) api.Stat {
	return api.Stat{Kind: api.If, E: e, Blocks: blocks}
}

func repeat(times int64, block ...api.Stat) api.Stat {
	return api.Stat{Kind: api.Repeat, N: times, Blocks: [][]api.Stat{block}}
}

func par(blocks ...[]api.Stat) api.Stat { return api.Stat{Kind: api.Par, Blocks: blocks} }

func sameExpr(a, b api.Expr) bool {
	return a.Kind == b.Kind && a.N == b.N && a.Name == b.Name && slices.EqualFunc(a.Kids, b.Kids, sameExpr)
}

func sameStat(a, b api.Stat) bool {
	return a.Kind == b.Kind && a.Name == b.Name && a.N == b.N && sameExpr(a.E, b.E) && slices.EqualFunc(a.Blocks, b.Blocks, same)
}

// same: are two programs the same? (Lists of nothing are.)
func same(a, b []api.Stat) bool { return slices.EqualFunc(a, b, sameStat) }

// opsOf: how many statements and expressions there are.
func opsOf(l []api.Stat) int {
	n := len(l)
	for _, s := range l {
		if s.E.Kind != 0 {
			n += opsOfExpr(s.E)
		}
		for _, block := range s.Blocks {
			n += opsOf(block)
		}
	}
	return n
}

func opsOfExpr(e api.Expr) int {
	n := 1
	for _, kid := range e.Kids {
		n += opsOfExpr(kid)
	}
	return n
}

// depthOf: how deep the deepest one is, if the statements are 1 deep.
func depthOf(l []api.Stat) int {
	deepest := 0
	for _, s := range l {
		deepest = max(deepest, 1)
		if s.E.Kind != 0 {
			deepest = max(deepest, 1+heightOf(s.E))
		}
		for _, block := range s.Blocks {
			deepest = max(deepest, 1+depthOf(block))
		}
	}
	return deepest
}

func heightOf(e api.Expr) int {
	most := 0
	for _, kid := range e.Kids {
		most = max(most, heightOf(kid))
	}
	return most + 1
}

// dice gives numbers that are the same in every run of the tests.
type dice uint64

func (d *dice) below(n int) int {
	*d = *d*6364136223846793005 + 1442695040888963407
	return int(uint64(*d) >> 33 % uint64(n))
}

// name: one of so many.
func (d *dice) name(names int) string {
	return []string{"x", "y", "z", "ab", "a", "zzzzzzzz", "ifx", "pa", "e", "band"}[d.below(names)]
}

// expr of a height of at most so much.
func (d *dice) expr(height, names int) api.Expr {
	if height <= 1 || d.below(3) == 0 {
		if d.below(2) == 0 {
			return num([]int64{0, 1, 2, 3, 10, 1001, maxNumber}[d.below(7)])
		}
		return name(d.name(names))
	}
	return of(api.Sum+d.below(3), d.expr(height-1, names), d.expr(height-1, names))
}

// stats: at most so many, nested at most so deep.
func (d *dice) stats(most, depth, names int) []api.Stat {
	var l []api.Stat
	for range d.below(most + 1) {
		l = append(l, d.stat(depth, names))
	}
	return l
}

func (d *dice) stat(depth, names int) api.Stat {
	kind := d.below(8)
	if depth <= 1 {
		kind %= 4
	}
	switch kind {
	case 0, 1:
		return assign(d.name(names), d.expr(4, names))
	case 2, 3:
		return add(d.name(names), d.expr(4, names))
	case 4:
		return when(d.expr(3, names), d.stats(3, depth-1, names))
	case 5:
		return when(d.expr(3, names), d.stats(3, depth-1, names), d.stats(3, depth-1, names))
	case 6:
		return repeat(int64(d.below(5)), d.stats(3, depth-1, names)...)
	}
	var blocks [][]api.Stat
	for range 1 + d.below(4) {
		blocks = append(blocks, d.stats(2, depth-1, names))
	}
	return par(blocks...)
}
