package team

import (
	"bytes"
	"runtime"
	"slices"
	"strings"
	"sync"
	"testing"
	"time"

	"lockstep/api"
	"lockstep/laid"
	"lockstep/lang"
)

// crewOf a program that is read.
func crewOf(t *testing.T, text string, steps int) *crew {
	t.Helper()
	l, fault := lang.Read(text)
	if fault.Code != api.OK || lang.Races(l) != api.OK {
		t.Fatalf("%q: %v, races %d", text, fault, lang.Races(l))
	}
	names := laid.Names(l, nil)
	return newCrew(laid.Down(l, names), laid.Numbers(names, nil), steps)
}

// numbersOf a program by its meaning.
func numbersOf(text string) (numbers []int64, took int) {
	l, _ := lang.Read(text)
	told, took, _ := lang.Mean(l, nil, 1<<30)
	for _, v := range told {
		numbers = append(numbers, v.N)
	}
	return numbers, took
}

// hand: a path, and the worker that follows it.
type hand struct {
	*worker
	p *path
}

// byOrder does the program, always by one statement of one of the paths, which is said here and not left to the schedule, as if for each there were a worker. It answers how many paths there were at a time.
func byOrder(c *crew, choose func(paths int) int) int {
	var hands []hand
	most := 0
	for {
		for len(c.ready) > 0 {
			hands = append(hands, hand{&worker{crew: c}, <-c.ready})
		}
		if len(hands) == 0 {
			return most
		}
		most = max(most, len(hands))
		at := choose(len(hands))
		h := &hands[at]
		h.p = h.goOn(h.p)
		if h.p == nil {
			h.tell()
			hands = slices.Delete(hands, at, at+1)
		}
	}
}

// isOver: has it been told that the program is over?
func (c *crew) isOver() bool {
	select {
	case <-c.over:
		return true
	default:
		return false
	}
}

// choosers: who comes first.
func choosers() []func(int) int {
	turn, dice := 0, uint64(7)
	return []func(int) int{
		func(int) int { return 0 },
		func(paths int) int { return paths - 1 },
		func(paths int) int { return paths / 2 },
		func(paths int) int { turn++; return turn % paths },
		func(paths int) int {
			dice = dice*6364136223846793005 + 1442695040888963407
			return int(dice >> 33 % uint64(paths))
		},
	}
}

// texts of programs without races, in which there is much to be done side by side.
var texts = []string{
	"x = 1; par { x += 2 } and { y = 3 }; z = x * y",
	"repeat 5 { par { x += 2; y = y + 1 } and { z = z + 3; par { x += 1 } and { x += 4 } } and { w = w - 1 } }; e = x",
	"par { par { a += 1; b = 1 } and { a += 2; par { c = 1; d = c } and { a += 3 } } } and { repeat 3 { par { e = e + 1 } and { a += 1 } and { f = f + 2 }; if e - 1 { e += f } else { f += e } } }; g = a + b * c - d + e * f",
	"if 1 { par { if a { b = 1 } else { b = 2 } } and { if a { } else { par { c += 1 } and { c += a } } } }; repeat 2 { par { par { par { a += 1 } and { b = b + 1 } } } }",
	"par { a += 1 } and { a += 1 } and { a += 1 } and { a += 1 } and { a += 1 } and { a += 1 } and { a += 1 } and { a += 1; repeat 10 { b += 1 } }; c = a",
	"par { repeat 150 { a += 1 } } and { repeat 30 { par { a += 2 } and { b = b + 1 } }; repeat 101 { if b { a += 1 } } }; c = a",
}

func TestP25RunWhoeverIsFirst(t *testing.T) {
	for _, text := range texts {
		want, took := numbersOf(text)
		for i, choose := range choosers() {
			c := crewOf(t, text, took)
			if most := byOrder(c, choose); most < 2 {
				t.Error(text, i, "one behind the other")
			}
			if !slices.Equal(c.told(), want) || c.left.Load() != 0 || !c.isOver() {
				t.Error(text, i, c.told(), want, c.left.Load(), c.isOver())
			}
		}
	}
}

// With each number of steps that is too small it comes to an end, and is told to be too large.
func TestP25TooFewStepsWhoeverIsFirst(t *testing.T) {
	for _, text := range texts {
		_, took := numbersOf(text)
		for steps := range took {
			for i, choose := range choosers() {
				c := crewOf(t, text, steps)
				byOrder(c, choose)
				if c.left.Load() >= 0 || !c.isOver() {
					t.Error(text, i, steps, c.left.Load(), c.isOver())
				}
			}
		}
	}
}

// At a Par all blocks but one, which the worker has itself, are at once there for others; nobody waits for them: whoever is the last goes on behind it.
func TestP25BlocksAreHandedOut(t *testing.T) {
	c := crewOf(t, "par { a = 1 } and { } and { b = 2 } and { c = 3; d = 4 }; e = a + b + c", 10)
	w := worker{crew: c}
	whole := <-c.ready
	first := w.goOn(whole)
	if first == nil || first == whole || len(c.ready) != 2 || whole.open.Load() != 3 {
		t.Fatal("not handed out:", first, len(c.ready), whole.open.Load())
	}
	second, third := <-c.ready, <-c.ready
	if w.goOn(first) != first || w.goOn(first) != nil || w.goOn(third) != third || w.goOn(third) != third || w.goOn(third) != nil {
		t.Fatal("a worker is held by the blocks of others")
	}
	if c.isOver() || len(c.ready) != 0 {
		t.Fatal("gone on ahead of the last block")
	}
	if w.goOn(second) != second || w.goOn(second) != whole || w.goOn(whole) != whole || c.isOver() || w.goOn(whole) != nil || !c.isOver() {
		t.Error("not gone on behind the last block")
	}
	w.tell()
	if want := []int64{1, 2, 3, 4, 6}; !slices.Equal(c.told(), want) || c.left.Load() != 5 {
		t.Error(c.told(), c.left.Load())
	}
}

// following: how many goroutines follow a path just now.
func following() int {
	stacks := make([]byte, 1<<20)
	stacks = stacks[:runtime.Stack(stacks, true)]
	return bytes.Count(stacks, []byte("team.(*worker).follow("))
}

// mostFollowing: how many follow a path at a time while the program is done, as far as one who looks on from beside can see.
func mostFollowing(l []api.Stat, workers int) int {
	over, most := make(chan struct{}), 0
	go func() {
		defer close(over)
		Run(l, nil, 1<<30, workers)
	}()
	for {
		select {
		case <-over:
			return most
		default:
			most = max(most, following())
		}
	}
}

// As many blocks are done at a time as there are workers, or blocks, if they are fewer.
func TestP25RunSideBySide(t *testing.T) {
	defer runtime.GOMAXPROCS(runtime.GOMAXPROCS(8))
	block := "{ repeat 1000 { repeat 1000 { x += 1 } } }"
	for _, c := range []struct{ blocks, workers, want int }{{4, 1, 1}, {4, 2, 2}, {3, 5, 3}, {8, 6, 6}, {4, 16, 4}} {
		l, _ := lang.Read("par " + block + strings.Repeat(" and "+block, c.blocks-1))
		most := 0
		for range 50 {
			most = max(most, mostFollowing(l, c.workers))
			if most >= c.want {
				break
			}
		}
		if most != c.want {
			t.Error(c, "at a time:", most)
		}
	}
}

// comesTo: does the variable at the place come to that number, if others are given time?
func (c *crew) comesTo(place int, n int64) bool {
	for range 5000 {
		if c.number(place) == n {
			return true
		}
		time.Sleep(time.Millisecond)
	}
	return false
}

// A worker that is free is handed the blocks of another one's Par, while that one is still within its own block, wherever the Par is, and whatever the free one did ahead of that.
func TestP25WhoIsFreeIsHandedBlocks(t *testing.T) {
	c := crewOf(t, "par { a = 1; par { b = 1 } and { c = 1 }; d = b + c } and { e = 1 } and { f = 1 }", 10)
	w, other := worker{crew: c}, worker{crew: c}
	slow := w.goOn(<-c.ready)
	var others sync.WaitGroup
	others.Go(other.work)
	if !c.comesTo(4, 1) || !c.comesTo(5, 1) {
		t.Fatal("no one does the other blocks:", c.told())
	}
	slow = w.goOn(w.goOn(slow))
	if !c.comesTo(2, 1) || !slices.Equal(c.told(), []int64{1, 0, 1, 0, 1, 1}) {
		t.Fatal("no one does the other block within the block:", c.told())
	}
	w.follow(slow)
	others.Wait()
	if !slices.Equal(c.told(), []int64{1, 1, 1, 2, 1, 1}) || c.left.Load() != 4 {
		t.Error(c.told(), c.left.Load())
	}
}
