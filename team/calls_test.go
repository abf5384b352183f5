package team_test

import (
	"runtime"
	"slices"
	"sync"
	"testing"
	"time"
	"unsafe"

	"lockstep/api"
	"lockstep/lang"
	"lockstep/team"
)

// goroutines: how many there are. runtime.NumGoroutine is not asked: it adds up numbers that change meanwhile, and may be wrong by dozens; a profile stops all others while it counts, even one for which there is no room.
func goroutines() int {
	n, _ := runtime.GoroutineProfile(make([]runtime.StackRecord, 1))
	return n
}

// settled: how many goroutines there are, when those that are just leaving have been given time to do so.
func settled(want int) int {
	n := goroutines()
	for range 5000 {
		if n <= want {
			break
		}
		time.Sleep(time.Millisecond)
		n = goroutines()
	}
	return n
}

// watch counts goroutines, its own too, till it is over, and then tells the greatest number.
func watch(over <-chan struct{}, seen chan<- int) {
	most := 0
	for {
		select {
		case <-over:
			seen <- most
			return
		default:
			most = max(most, goroutines())
		}
	}
}

// mostDuring: how many goroutines there are at most beside the test's own, as far as one who looks on from beside can see: some may be missed, but there are never fewer than are seen.
func mostDuring(do func()) int {
	over, seen := make(chan struct{}), make(chan int)
	before := goroutines() + 1
	go watch(over, seen)
	for range 50 {
		do()
		settled(before)
	}
	close(over)
	return <-seen - before
}

func TestP25NoMoreThanWorkers(t *testing.T) {
	l := read(t, "repeat 20 { par { par { x += 1 } and { x += 2 } and { y += 1 } } and { par { z = 1 } and { x += 1; w = 1 } } and { repeat 20 { v += 1 } } }")
	for _, workers := range []int{1, 2, 5} {
		if most := mostDuring(func() { team.Run(l, nil, 10000, workers) }); most > workers {
			t.Error("too many goroutines at a time:", most, "with workers:", workers)
		}
	}
}

func TestP1GoroutinesHaveEnded(t *testing.T) {
	before := goroutines()
	all := append(noPrograms(), nil, bush(2), list(clash()), list(repeat(1000, add("x", num(1)))), list(repeat(20, bush(2)...)))
	for range 20 {
		for _, l := range all {
			for _, steps := range []int{-1, 0, 1, 50, 5000} {
				team.Run(l, nil, steps, api.MaxWorkers)
				team.Run(l, nil, steps, api.MaxWorkers+1)
				team.Run(l, []api.Var{{}}, steps, api.MaxWorkers)
			}
		}
	}
	if after := settled(before); after > before {
		t.Error("goroutines are left:", after-before)
	}
}

// marked: the list with marks in the room behind it.
func marked[T any](l []T, mark T) []T {
	return append(slices.Clone(l), mark, mark, mark)[:len(l)]
}

// markedStats: a copy with marks behind each list in it.
func markedStats(l []api.Stat) []api.Stat {
	l = marked(l, api.Stat{Kind: -7})
	for i := range l {
		l[i].E = markedExpr(l[i].E)
		l[i].Blocks = marked(l[i].Blocks, list(api.Stat{Kind: -7}))
		for j, block := range l[i].Blocks {
			l[i].Blocks[j] = markedStats(block)
		}
	}
	return l
}

func markedExpr(e api.Expr) api.Expr {
	e.Kids = marked(e.Kids, api.Expr{Kind: -7})
	for i, kid := range e.Kids {
		e.Kids[i] = markedExpr(kid)
	}
	return e
}

// rooms: a copy in which the marks behind each list are in it.
func rooms(l []api.Stat) []api.Stat {
	all := slices.Clone(l[:len(l)+3])
	for i := range l {
		all[i].E = roomsOf(l[i].E)
		all[i].Blocks = slices.Clone(l[i].Blocks[:len(l[i].Blocks)+3])
		for j, block := range l[i].Blocks {
			all[i].Blocks[j] = rooms(block)
		}
	}
	return all
}

func roomsOf(e api.Expr) api.Expr {
	kids := slices.Clone(e.Kids[:len(e.Kids)+3])
	for i, kid := range e.Kids {
		kids[i] = roomsOf(kid)
	}
	e.Kids = kids
	return e
}

func sameExpr(a, b api.Expr) bool {
	return a.Kind == b.Kind && a.N == b.N && a.Name == b.Name && slices.EqualFunc(a.Kids, b.Kids, sameExpr)
}

func sameStat(a, b api.Stat) bool {
	return a.Kind == b.Kind && a.Name == b.Name && a.N == b.N && sameExpr(a.E, b.E) && slices.EqualFunc(a.Blocks, b.Blocks, same)
}

// same: are two programs the same? (Lists of nothing are.)
func same(a, b []api.Stat) bool { return slices.EqualFunc(a, b, sameStat) }

func TestP2NothingIsChanged(t *testing.T) {
	d := dice(10)
	thrown := append(noPrograms(), nil, list(clash()), bush(2))
	for range 200 {
		thrown = append(thrown, d.stats(free("x y z u v"), 3, 3))
	}
	for _, program := range thrown {
		l := markedStats(program)
		start := marked(vars("z y ab", 3, 2, 1), api.Var{Name: "mark"})
		was, startWas := rooms(l), slices.Clone(start[:6])
		for _, workers := range []int{0, 1, 2, 16} {
			team.Run(l, start, 1000, workers)
			team.Run(l, start, 2, workers)
			team.Run(l, start[:0], 1000, workers)
			team.Run(l, append(start[:1:1], start[0]), 1000, workers)
		}
		if !same(rooms(l), was) || !slices.Equal(start[:6], startWas) {
			t.Fatal("changed:", rooms(l), was, start[:6])
		}
	}
}

func TestP2NothingIsKept(t *testing.T) {
	l := list(par(list(assign("x", num(1))), list(assign("v", num(2)), assign("y", name("z")))))
	start := vars("z", 5)
	hold(t, l, start, vars("v x y z", 2, 1, 5, 5), 3)
	l[0].Blocks[0][0].E, l[0].Blocks[1][1], start[0] = num(7), add("v", num(1)), api.Var{Name: "w", N: 6}
	hold(t, l, start, vars("v w x", 3, 6, 7), 3)
	hold(t, l[:0], start[:0], nil, 0)
}

// apart: do two texts lie in memory of their own?
func apart(a, b string) bool {
	from, to := uintptr(unsafe.Pointer(unsafe.StringData(a))), uintptr(unsafe.Pointer(unsafe.StringData(b)))
	return from+uintptr(len(a)) <= to || to+uintptr(len(b)) <= from
}

// namesIn a program, as they lie in memory.
func namesIn(l []api.Stat) []string {
	var names []string
	for _, s := range l {
		names = append(names, s.Name)
		names = append(names, namesOf(s.E)...)
		for _, block := range s.Blocks {
			names = append(names, namesIn(block)...)
		}
	}
	return slices.DeleteFunc(names, func(text string) bool { return text == "" })
}

func namesOf(e api.Expr) []string {
	names := []string{e.Name}
	for _, kid := range e.Kids {
		names = append(names, namesOf(kid)...)
	}
	return names
}

func TestP2AnswersAreNewMemory(t *testing.T) {
	l, start := read(t, "par { x = y } and { w = 1; z = w } and { v = 3 }"), vars("q y", 4, 2)
	want := vars("q v w x y z", 4, 3, 1, 2, 2, 1)
	one, _, _ := team.Run(l, start, 10, 2)
	two, _, _ := team.Run(l, start, 10, 2)
	for _, v := range one {
		for _, part := range append(namesIn(l), start[0].Name, start[1].Name) {
			if !apart(v.Name, part) {
				t.Errorf("%q is kept", part)
			}
		}
	}
	clear(one[:cap(one)])
	if !slices.Equal(two, want) || !slices.Equal(start, vars("q y", 4, 2)) {
		t.Error("answers share memory:", two, start)
	}
	hold(t, l, start, want, 4)
}

// One program may be used by many calls at a time.
func TestP2CallsSideBySide(t *testing.T) {
	l, start := read(t, "repeat 20 { par { x = y; repeat 2 { v += x } } and { w = 1; z = w } and { if y { v += 3 } } }"), vars("y", 2)
	want, took, _ := lang.Mean(l, start, 1000)
	var calls sync.WaitGroup
	for workers := 1; workers <= 8; workers++ {
		calls.Go(func() {
			for range 20 {
				if got, n, err := team.Run(l, start, took, workers); err != api.OK || n != took || !slices.Equal(got, want) {
					t.Error(workers, got, n, err)
				}
				if got, n, err := team.Run(l, start, took-1, workers); err != api.ErrLarge || n != 0 || got != nil {
					t.Error(workers, got, n, err)
				}
			}
		})
	}
	calls.Wait()
}

// No program, however wrong, lets it panic.
func TestP1RunAnswersWhateverIsGiven(t *testing.T) {
	d := dice(11)
	for range 20000 {
		team.Run(d.wild(3), []api.Var{{Name: d.one([]string{"x", "y", "if"})}}, d.below(20)-1, d.below(19)-1)
	}
}

// wild statements, most of which are none.
func (d *dice) wild(depth int) []api.Stat {
	var l []api.Stat
	for range d.below(3) {
		s := api.Stat{Kind: d.below(7), Name: []string{"", "x", "if"}[d.below(3)], N: int64(d.below(3) - 1), E: d.wildExpr(depth)}
		if depth > 0 {
			for range d.below(4) {
				s.Blocks = append(s.Blocks, d.wild(depth-1))
			}
		}
		l = append(l, s)
	}
	return l
}

func (d *dice) wildExpr(depth int) api.Expr {
	e := api.Expr{Kind: d.below(7), Name: []string{"", "x", "if"}[d.below(3)], N: int64(d.below(3) - 1)}
	if depth > 0 {
		for range d.below(4) {
			e.Kids = append(e.Kids, d.wildExpr(depth-1))
		}
	}
	return e
}
