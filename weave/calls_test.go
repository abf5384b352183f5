package weave_test

import (
	"runtime"
	"slices"
	"sync"
	"testing"
	"unsafe"

	"lockstep/api"
	"lockstep/weave"
)

// marked: the list with marks in the room behind it.
func marked[T any](l []T, mark T) []T {
	return append(slices.Clone(l), mark, mark, mark)[:len(l)]
}

// markedStats: a copy with marks behind each list in it.
func markedStats(l []api.Stat) []api.Stat {
	l = marked(l, api.Stat{Kind: -7})
	for i := range l {
		l[i].E = markedExpr(l[i].E)
		l[i].Blocks = marked(l[i].Blocks, list(api.Stat{Kind: -7}))
		for j, block := range l[i].Blocks {
			l[i].Blocks[j] = markedStats(block)
		}
	}
	return l
}

func markedExpr(e api.Expr) api.Expr {
	e.Kids = marked(e.Kids, api.Expr{Kind: -7})
	for i, kid := range e.Kids {
		e.Kids[i] = markedExpr(kid)
	}
	return e
}

// rooms: a copy in which the marks behind each list are in it.
func rooms(l []api.Stat) []api.Stat {
	all := slices.Clone(l[:len(l)+3])
	for i := range l {
		all[i].E = roomsOf(l[i].E)
		all[i].Blocks = slices.Clone(l[i].Blocks[:len(l[i].Blocks)+3])
		for j, block := range l[i].Blocks {
			all[i].Blocks[j] = rooms(block)
		}
	}
	return all
}

func roomsOf(e api.Expr) api.Expr {
	kids := slices.Clone(e.Kids[:len(e.Kids)+3])
	for i, kid := range e.Kids {
		kids[i] = roomsOf(kid)
	}
	e.Kids = kids
	return e
}

func sameExpr(a, b api.Expr) bool {
	return a.Kind == b.Kind && a.N == b.N && a.Name == b.Name && slices.EqualFunc(a.Kids, b.Kids, sameExpr)
}

func sameStat(a, b api.Stat) bool {
	return a.Kind == b.Kind && a.Name == b.Name && a.N == b.N && sameExpr(a.E, b.E) && slices.EqualFunc(a.Blocks, b.Blocks, same)
}

// same: are two programs the same? (Lists of nothing are.)
func same(a, b []api.Stat) bool { return slices.EqualFunc(a, b, sameStat) }

func TestP2NothingIsChanged(t *testing.T) {
	thrown := append(noPrograms(), nil, times(10, assign("x", num(1))))
	throw(50, 200, 6, 4, func(l []api.Stat, _ []api.Var) { thrown = append(thrown, l) })
	for _, program := range thrown {
		l := markedStats(program)
		start := marked(vars("z y ab", 3, 2, 1), api.Var{Name: "mark"})
		was, startWas := rooms(l), slices.Clone(start[:6])
		weave.Weave(l, start)
		weave.Weave(l, start[:0])
		weave.Weave(l, append(start[:1:1], start[0]))
		if !same(rooms(l), was) || !slices.Equal(start[:6], startWas) {
			t.Fatal("changed:", rooms(l), was, start[:6])
		}
	}
}

func TestP2NothingIsKept(t *testing.T) {
	l := list(par(list(assign("x", num(1))), list(assign("x", num(2)), assign("y", name("z")))))
	start := vars("z", 5)
	hold(t, l, start, outcomes("x y z", 1, 5, 5, 2, 5, 5))
	l[0].Blocks[0][0].E, l[0].Blocks[1][1], start[0] = num(7), add("x", num(1)), api.Var{Name: "w", N: 6}
	hold(t, l, start, outcomes("w x", 6, 3, 6, 7, 6, 8))
	hold(t, l[:0], start[:0], [][]api.Var{nil})
}

// apart: do two texts lie in memory of their own?
func apart(a, b string) bool {
	from, to := uintptr(unsafe.Pointer(unsafe.StringData(a))), uintptr(unsafe.Pointer(unsafe.StringData(b)))
	return from+uintptr(len(a)) <= to || to+uintptr(len(b)) <= from
}

func TestP2AnswersAreNewMemory(t *testing.T) {
	l, start := read(t, "par { x = y } and { x = 1; z = x } and { z = 3 }"), vars("q y", 4, 2)
	want := byWords(l, start)
	one, _ := weave.Weave(l, start)
	two, _ := weave.Weave(l, start)
	for _, outcome := range one {
		for _, v := range outcome {
			for _, part := range append(namesIn(l), start[0].Name, start[1].Name) {
				if !apart(v.Name, part) {
					t.Errorf("%q is kept", part)
				}
			}
		}
	}
	// What is written to one outcome, or behind it, is seen in no other.
	for i, outcome := range one {
		clear(outcome[:cap(outcome)])
		if !sameOutcomes(one[i+1:], want[i+1:]) {
			t.Fatal("outcomes share memory:", one)
		}
	}
	clear(one[:cap(one)])
	if !sameOutcomes(two, want) || !slices.Equal(start, vars("q y", 4, 2)) {
		t.Error("answers share memory:", two, start)
	}
	hold(t, l, start, want)
}

// One program may be used by many calls at a time.
func TestP2CallsSideBySide(t *testing.T) {
	l, start := read(t, "par { x = y; repeat 2 { y += x } } and { x = 1; z = x } and { if x { z = 3 } }"), vars("y", 2)
	want := byWords(l, start)
	var calls sync.WaitGroup
	for range 8 {
		calls.Go(func() {
			for range 20 {
				if got, err := weave.Weave(l, start); err != api.OK || !sameOutcomes(got, want) {
					t.Error(got, err)
				}
			}
		})
	}
	calls.Wait()
}

// The answer is the same each time, and no goroutine is left behind.
func TestP1AnswersAreTheSame(t *testing.T) {
	before := runtime.NumGoroutine()
	throw(51, 300, 7, 3, func(l []api.Stat, start []api.Var) {
		want, err := weave.Weave(l, start)
		for range 3 {
			if got, again := weave.Weave(l, start); again != err || !sameOutcomes(got, want) {
				t.Fatal(textOf(l), got, want)
			}
		}
		if now := runtime.NumGoroutine(); now > before {
			t.Fatal("goroutines are left:", now-before)
		}
	})
}

// It is the same in which order the blocks of a Par stand, and whether some stand in one of their own.
func TestP24BlocksInAnyOrder(t *testing.T) {
	d := dice(52)
	for range 300 {
		blocks := d.blocks(6, 3, 3)
		want, _ := weave.Weave(list(par(blocks...)), nil)
		slices.Reverse(blocks)
		hold(t, list(par(blocks...)), nil, want)
		if len(blocks) > 1 {
			hold(t, list(par(blocks[0], list(par(blocks[1:]...)))), nil, want)
		}
	}
}

// No program, however wrong, lets it panic.
func TestP1WeaveAnswersWhateverIsGiven(t *testing.T) {
	d := dice(53)
	for range 20000 {
		weave.Weave(d.wild(3), []api.Var{{Name: d.name(4)}})
	}
}

// wild statements, most of which are none.
func (d *dice) wild(depth int) []api.Stat {
	var l []api.Stat
	for range d.below(3) {
		s := api.Stat{Kind: d.below(7), Name: []string{"", "x", "if"}[d.below(3)], N: int64(d.below(3) - 1), E: d.wildExpr(depth)}
		if depth > 0 {
			for range d.below(4) {
				s.Blocks = append(s.Blocks, d.wild(depth-1))
			}
		}
		l = append(l, s)
	}
	return l
}

func (d *dice) wildExpr(depth int) api.Expr {
	e := api.Expr{Kind: d.below(7), Name: []string{"", "x", "if"}[d.below(3)], N: int64(d.below(3) - 1)}
	if depth > 0 {
		for range d.below(4) {
			e.Kids = append(e.Kids, d.wildExpr(depth-1))
		}
	}
	return e
}
