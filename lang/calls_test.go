package lang_test

import (
	"math"
	"slices"
	"strings"
	"sync"
	"testing"
	"unsafe"

	"lockstep/api"
	"lockstep/lang"
)

// marked: the list with marks in the room behind it.
func marked[T any](l []T, mark T) []T {
	return append(slices.Clone(l), mark, mark, mark)[:len(l)]
}

// markedStats: a copy with marks behind each list in it.
func markedStats(l []api.Stat) []api.Stat {
	l = marked(l, api.Stat{Kind: -7})
	for i := range l {
		l[i].E = markedExpr(l[i].E)
		l[i].Blocks = marked(l[i].Blocks, list(api.Stat{Kind: -7}))
		for j, block := range l[i].Blocks {
			l[i].Blocks[j] = markedStats(block)
		}
	}
	return l
}

func markedExpr(e api.Expr) api.Expr {
	e.Kids = marked(e.Kids, api.Expr{Kind: -7})
	for i, kid := range e.Kids {
		e.Kids[i] = markedExpr(kid)
	}
	return e
}

// rooms: a copy in which the marks behind each list are in it.
func rooms(l []api.Stat) []api.Stat {
	all := slices.Clone(l[:len(l)+3])
	for i := range l {
		all[i].E = roomsOf(l[i].E)
		all[i].Blocks = slices.Clone(l[i].Blocks[:len(l[i].Blocks)+3])
		for j, block := range l[i].Blocks {
			all[i].Blocks[j] = rooms(block)
		}
	}
	return all
}

func roomsOf(e api.Expr) api.Expr {
	kids := slices.Clone(e.Kids[:len(e.Kids)+3])
	for i, kid := range e.Kids {
		kids[i] = roomsOf(kid)
	}
	e.Kids = kids
	return e
}

// callAll of the package's calls.
func callAll(l []api.Stat, start []api.Var) {
	text, _ := lang.Write(l)
	lang.Read(text)
	lang.Races(l)
	for _, steps := range []int{-1, 0, 5, 1000} {
		lang.Mean(l, start, steps)
	}
}

func TestP2NothingIsChanged(t *testing.T) {
	d := dice(50)
	thrown := [][]api.Stat{nil, list(assign("if", num(1))), list(assign("x", num(-1))), list(par(list(assign("x", num(1))), list(assign("x", num(1)))))}
	for range 200 {
		thrown = append(thrown, d.stats(4, 4, 10))
	}
	for _, program := range thrown {
		l := markedStats(program)
		start := marked(vars("z y ab", 3, 2, 1), api.Var{Name: "mark"})
		was, startWas := rooms(l), slices.Clone(start[:6])
		callAll(l, start)
		if !same(rooms(l), was) || !slices.Equal(start[:6], startWas) {
			t.Fatal("changed:", rooms(l), was, start[:6])
		}
	}
}

func TestP2NothingIsKept(t *testing.T) {
	l := list(assign("x", of(api.Sum, name("y"), num(1))), par(list(add("z", num(1))), list(add("w", num(2)))))
	start := vars("y", 5)
	hold(t, l, start, vars("w x y z", 2, 6, 5, 1), 3)
	l[0].E.Kids[1], l[1].Blocks[0][0], start[0] = num(7), assign("w", num(3)), api.Var{Name: "q", N: 1}
	hold(t, l, start, vars("q w x y", 1, 5, 7, 0), 3)
	holdWrite(t, l, "x = y + 7; par { w = 3 } and { w += 2 }")
	if err := lang.Races(l); err != api.ErrRace {
		t.Error(err)
	}
	l[1].Blocks = l[1].Blocks[:1]
	if err := lang.Races(l); err != api.OK {
		t.Error(err)
	}
}

// fill the room behind a list.
func fill[T any](l []T, mark T) {
	room := l[len(l):cap(l)]
	for i := range room {
		room[i] = mark
	}
}

// scribble into the room behind each list of an answer.
func scribble(l []api.Stat) {
	for i := range l {
		scribbleExpr(l[i].E)
		for _, block := range l[i].Blocks {
			scribble(block)
		}
		fill(l[i].Blocks, list(api.Stat{Kind: -7}))
	}
	fill(l, api.Stat{Kind: -7})
}

func scribbleExpr(e api.Expr) {
	for _, kid := range e.Kids {
		scribbleExpr(kid)
	}
	fill(e.Kids, api.Expr{Kind: -7})
}

// namesIn a program.
func namesIn(l []api.Stat) []string {
	var seen three
	seen.see(l)
	return slices.Concat(seen.assigned, seen.added, seen.read)
}

// apart: do two texts lie in memory of their own?
func apart(a, b string) bool {
	from, to := uintptr(unsafe.Pointer(unsafe.StringData(a))), uintptr(unsafe.Pointer(unsafe.StringData(b)))
	return from+uintptr(len(a)) <= to || to+uintptr(len(b)) <= from
}

func TestP2ReadAnswersNewMemory(t *testing.T) {
	d := dice(51)
	throw(t, 51, 200, 10, func(l []api.Stat) {
		text := spell(&d, l)
		one, _ := lang.Read(text)
		two, _ := lang.Read(text)
		scribble(one)
		if !same(one, l) || !same(two, l) {
			t.Fatal("lists of an answer share memory:", byWords(l))
		}
		for _, part := range namesIn(one) {
			if !apart(part, text) {
				t.Fatalf("%q is a part of the text", part)
			}
		}
		for i := range one {
			one[i] = api.Stat{}
		}
		if !same(two, l) {
			t.Fatal("two answers share memory:", byWords(l))
		}
	})
}

func TestP2MeanAnswersNewMemory(t *testing.T) {
	l, start := read(t, "x = y; if 0 { z = x }"), vars("q y", 1, 2)
	one, _, _ := lang.Mean(l, start, 5)
	two, _, _ := lang.Mean(l, start, 5)
	for _, v := range one {
		for _, part := range append(namesIn(l), start[0].Name, start[1].Name) {
			if !apart(v.Name, part) {
				t.Errorf("%q is kept", part)
			}
		}
	}
	clear(one[:cap(one)])
	want := vars("q x y z", 1, 2, 2, 0)
	if !slices.Equal(two, want) || !slices.Equal(start, vars("q y", 1, 2)) {
		t.Error("answers share memory:", two, start)
	}
	hold(t, l, start, want, 2)
}

// One program may be used by many calls at a time.
func TestP2CallsSideBySide(t *testing.T) {
	d := dice(52)
	l := list(repeat(20, d.stats(4, 4, 10)...), par(list(add("x", num(1))), list(add("x", num(2)))))
	start := vars("x y", 7, 8)
	want, took := outcome(l, start, math.MaxInt)
	text := byWords(l)
	var calls sync.WaitGroup
	for range 8 {
		calls.Go(func() {
			for range 20 {
				if vars, n, err := lang.Mean(l, start, took); err != api.OK || n != took || !slices.Equal(vars, want) {
					t.Error(vars, n, err)
				}
				if got, err := lang.Write(l); err != api.OK || got != text {
					t.Error(got, err)
				}
				if got, fault := lang.Read(text); fault.Code != api.OK || !same(got, l) {
					t.Error(got, fault)
				}
				lang.Races(l)
			}
		})
	}
	calls.Wait()
}

// No text and no program, however wrong, lets a call panic.
func TestP1CallsAnswerWhateverIsGiven(t *testing.T) {
	d := dice(53)
	letters := strings.Join(allTokens, "") + " \n\t\x00\xffé"
	for range 20000 {
		var text []byte
		for range d.below(30) {
			text = append(text, letters[d.below(len(letters))])
		}
		if l, fault := lang.Read(string(text)); fault.Code != api.OK && (l != nil || fault.Code != api.ErrSyntax || fault.At < 0 || fault.At > len(text)) {
			t.Fatalf("%q: %v %v", text, l, fault)
		}
	}
	for range 20000 {
		callAll(d.wild(3), []api.Var{{Name: d.name(10)}})
	}
}

// wild statements, most of which are none.
func (d *dice) wild(depth int) []api.Stat {
	var l []api.Stat
	for range d.below(3) {
		s := api.Stat{Kind: d.below(7), Name: []string{"", "x", "if"}[d.below(3)], N: int64(d.below(3) - 1), E: d.wildExpr(depth)}
		if depth > 0 {
			for range d.below(4) {
				s.Blocks = append(s.Blocks, d.wild(depth-1))
			}
		}
		l = append(l, s)
	}
	return l
}

func (d *dice) wildExpr(depth int) api.Expr {
	e := api.Expr{Kind: d.below(7), Name: []string{"", "x", "if"}[d.below(3)], N: int64(d.below(3) - 1)}
	if depth > 0 {
		for range d.below(4) {
			e.Kids = append(e.Kids, d.wildExpr(depth-1))
		}
	}
	return e
}
