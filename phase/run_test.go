package phase_test

import (
	"cmp"
	"math"
	"runtime"
	"slices"
	"sync"
	"testing"
	"time"

	"lockstep/api"
	"lockstep/phase"
)

// letter: a number that was sent, in which phase, by whom.
type letter struct {
	phase, from, to int
	n               int64
	folded          bool
}

// piecesOf: what a process does, cut behind each DoSync.
func piecesOf(dos []api.Do) [][]api.Do {
	var pieces [][]api.Do
	for from := 0; from < len(dos); {
		to := from
		for to < len(dos)-1 && dos[to].Kind != api.DoSync {
			to++
		}
		pieces = append(pieces, dos[from:to+1])
		from = to + 1
	}
	return pieces
}

// meaning: the document's words, one thing behind the other. All letters stand in one list, and are put in order only when they are folded; in each phase the last process goes first, because it must not matter.
func meaning(all [][]api.Do) ([]int64, int) {
	numbers, phases := make([]int64, len(all)), 0
	pieces := make([][][]api.Do, len(all))
	for i, dos := range all {
		pieces[i] = piecesOf(dos)
		phases = max(phases, len(pieces[i]))
	}
	var letters []letter
	for now := range phases {
		for i := len(all) - 1; i >= 0; i-- {
			if now >= len(pieces[i]) {
				continue
			}
			for _, d := range pieces[i][now] {
				switch d.Kind {
				case api.DoAdd:
					numbers[i] += d.N
				case api.DoSend:
					letters = append(letters, letter{phase: now, from: i, to: d.To, n: numbers[i] + d.N})
				case api.DoFold:
					numbers[i] = folded(letters, i, now, numbers[i])
				}
			}
		}
	}
	return numbers, phases
}

// folded: what a process's number comes to by the letters of the phases ahead.
func folded(letters []letter, to, now int, number int64) int64 {
	slices.SortStableFunc(letters, func(a, b letter) int {
		return cmp.Or(cmp.Compare(a.phase, b.phase), cmp.Compare(a.from, b.from))
	})
	for i := range letters {
		l := &letters[i]
		if l.to == to && l.phase < now && !l.folded {
			l.folded = true
			number = number*31 + l.n
		}
	}
	return number
}

// hold: Run answers this, however many work.
func hold(t *testing.T, what string, all [][]api.Do, wantNumbers []int64, wantPhases int) {
	t.Helper()
	for workers := 1; workers <= api.MaxWorkers; workers++ {
		numbers, phases, err := phase.Run(all, workers)
		if err != api.OK {
			t.Fatalf("%s: %d workers: error %d", what, workers, err)
		}
		if !slices.Equal(numbers, wantNumbers) {
			t.Fatalf("%s: %d workers: numbers %v, not %v", what, workers, numbers, wantNumbers)
		}
		if phases != wantPhases {
			t.Fatalf("%s: %d workers: phases %d, not %d", what, workers, phases, wantPhases)
		}
	}
}

type runCase struct {
	what    string
	all     [][]api.Do
	numbers []int64
	phases  int
}

func holdRuns(t *testing.T, cases []runCase) {
	t.Helper()
	for _, c := range cases {
		hold(t, c.what, c.all, c.numbers, c.phases)
		numbers, phases := meaning(c.all)
		if !slices.Equal(numbers, c.numbers) || phases != c.phases {
			t.Errorf("%s: the meaning is said otherwise: %v %d", c.what, numbers, phases)
		}
	}
}

func TestP9RunSmall(t *testing.T) {
	holdRuns(t, []runCase{
		{"the document's example", [][]api.Do{{add(3), send(1, 4), end()}, {fold(), end(), fold()}}, []int64{3, 7}, 2},
		{"nothing", nil, nil, 0},
		{"processes that do nothing", [][]api.Do{nil, {}}, []int64{0, 0}, 0},
		{"DoAdds", [][]api.Do{{add(5), add(-8)}, {add(4)}}, []int64{-3, 4}, 1},
		{"a DoSend leaves the number", [][]api.Do{{add(2), send(0, 9)}}, []int64{2}, 1},
		{"the number as it is when it is sent", [][]api.Do{{send(1, 5), add(2), send(1, 5), add(4)}, {end(), fold()}}, []int64{6, 31*5 + 7}, 2},
		{"a DoFold of nothing", [][]api.Do{{add(2), fold(), fold()}}, []int64{2}, 1},
		{"a 0 that has come counts", [][]api.Do{{send(1, 0), send(1, 0)}, {add(1), end(), fold()}}, []int64{0, 31 * 31}, 2},
		{"31 times the number, and that one", [][]api.Do{{send(1, 3), send(1, 4)}, {add(2), end(), fold()}}, []int64{0, 31*(31*2+3) + 4}, 2},
		{"what is folded is folded once", [][]api.Do{{send(1, 3)}, {end(), fold(), fold(), end(), fold()}}, []int64{0, 3}, 3},
		{"to itself", [][]api.Do{{add(1), send(0, 1), fold(), end(), fold(), send(0, 0), end(), fold()}}, []int64{31*(31+2) + 33}, 3},
	})
}

func TestP9RunWhatIsSentComesInThePhasesBehind(t *testing.T) {
	holdRuns(t, []runCase{
		{"not in the phase itself", [][]api.Do{{send(1, 3)}, {fold()}}, []int64{0, 0}, 1},
		{"not in the phase itself, from behind", [][]api.Do{{fold()}, {send(0, 3)}}, []int64{0, 0}, 1},
		{"not to itself in the phase itself", [][]api.Do{{send(0, 3), fold()}}, []int64{0}, 1},
		{"not behind another's DoSync alone", [][]api.Do{{end(), send(1, 3)}, {end(), fold()}}, []int64{0, 0}, 2},
		{"phases behind, at the next DoFold", [][]api.Do{{send(1, 3)}, {end(), end(), end(), fold()}}, []int64{0, 3}, 4},
		{"of several phases at one DoFold", [][]api.Do{{send(1, 1), end(), send(1, 2), end(), send(1, 3)}, {end(), end(), end(), fold()}}, []int64{0, 31*(31+2) + 3}, 4},
		{"some folded, the others later", [][]api.Do{{send(1, 1), end(), send(1, 2)}, {end(), fold(), end(), fold()}}, []int64{0, 31 + 2}, 3},
		{"what was folded goes on", [][]api.Do{{add(5), send(1, 0)}, {end(), fold(), send(2, 1), end()}, {end(), end(), fold()}}, []int64{5, 5, 6}, 3},
	})
}

func TestP9RunOrderOfWhatComes(t *testing.T) {
	three := 31*(31*1+2) + 3
	holdRuns(t, []runCase{
		{"by who sent it", [][]api.Do{{send(3, 1)}, {send(3, 2)}, {send(3, 3)}, {end(), fold()}}, []int64{0, 0, 0, int64(three)}, 2},
		{"by who sent it, the receiver ahead", [][]api.Do{{end(), fold()}, {send(0, 1)}, {send(0, 2)}, {send(0, 3)}}, []int64{int64(three), 0, 0, 0}, 2},
		{"its own by its place", [][]api.Do{{send(1, 1)}, {send(1, 2), end(), fold()}, {send(1, 3)}}, []int64{0, int64(three), 0}, 2},
		{"of one by the order in which it was sent", [][]api.Do{{send(1, 1), send(0, 9), send(1, 2), send(1, 3)}, {end(), fold()}}, []int64{0, int64(three)}, 2},
		{"by the phase ahead of who sent it", [][]api.Do{{end(), send(2, 2), end()}, {send(2, 1), end(), send(2, 3)}, {end(), end(), fold()}}, []int64{0, 0, int64(three)}, 3},
		{"when others ended ahead of them", [][]api.Do{nil, {end(), send(3, 1)}, {add(0)}, {end(), end(), fold()}, {end(), send(3, 2)}, {end(), send(3, 3), end(), end()}}, []int64{0, 0, 0, int64(three), 0, 0}, 3},
	})
}

func TestP9RunWhatIsLost(t *testing.T) {
	holdRuns(t, []runCase{
		{"to one at its end", [][]api.Do{{add(1)}, {end(), send(0, 5), end(), end()}}, []int64{1, 0}, 3},
		{"to one that never did a thing", [][]api.Do{nil, {send(0, 5), end()}}, []int64{0, 0}, 1},
		{"behind the last DoFold", [][]api.Do{{end(), fold(), end(), add(1), end(), add(1)}, {send(0, 5), end(), send(0, 7)}}, []int64{7, 0}, 4},
		{"in the last phase", [][]api.Do{{end(), fold()}, {send(0, 5), end(), send(0, 7)}}, []int64{5, 0}, 2},
		{"to one that comes to its end in the same phase", [][]api.Do{{end(), add(2)}, {end(), send(0, 5)}}, []int64{2, 0}, 2},
	})
}

func TestP9RunPhases(t *testing.T) {
	holdRuns(t, []runCase{
		{"a DoSync alone", [][]api.Do{{end()}}, []int64{0}, 1},
		{"DoSyncs alone", [][]api.Do{{end(), end(), end()}}, []int64{0}, 3},
		{"something behind the last DoSync", [][]api.Do{{end(), end(), fold()}}, []int64{0}, 3},
		{"nothing behind the last DoSync", [][]api.Do{{add(1), end(), add(1), end()}}, []int64{2}, 2},
		{"as many as the longest has", [][]api.Do{{end()}, {end(), end(), end(), add(1)}, nil, {add(1), end(), end()}}, []int64{0, 1, 0, 1}, 4},
		{"one phase however much is done", [][]api.Do{{add(1), fold(), send(0, 1), add(2)}}, []int64{3}, 1},
	})
}

func TestP9RunNumbersRunOver(t *testing.T) {
	holdRuns(t, []runCase{
		{"a DoAdd", [][]api.Do{{add(math.MaxInt64), add(1)}, {add(math.MinInt64), add(-1)}}, []int64{math.MinInt64, math.MaxInt64}, 1},
		// by 2^64: 2^63 - 1, and 2, is -2^63 + 1
		{"a DoSend", [][]api.Do{{add(math.MaxInt64), send(1, 2)}, {end(), fold()}}, []int64{math.MaxInt64, math.MinInt64 + 1}, 2},
		// by 2^64: 31 times 2^62, and 2^63 - 1, is 2^62 - 1
		{"a DoFold", [][]api.Do{{send(1, math.MaxInt64)}, {add(1 << 62), end(), fold()}}, []int64{0, 1<<62 - 1}, 2},
	})
}

// A process that waits holds no worker: were it to keep one, these would never end.
func TestP9RunMoreWaitThanWork(t *testing.T) {
	ring := make([][]api.Do, api.MaxTasks)
	for i := range ring {
		for range 20 {
			ring[i] = append(ring[i], send((i+1)%len(ring), int64(i)), end(), fold())
		}
	}
	numbers, phases := meaning(ring)
	if phases != 21 {
		t.Fatal(phases)
	}
	hold(t, "all in a ring", ring, numbers, phases)
}

// dice gives numbers that are the same in every run of the tests.
type dice uint64

func (d *dice) below(n int) int {
	*d = *d*6364136223846793005 + 1442695040888963407
	return int(uint64(*d) >> 33 % uint64(n))
}

// throw: so many processes, each of which does at most so many things.
func throw(d *dice, processes, dos int) [][]api.Do {
	all := make([][]api.Do, processes)
	for i := range all {
		for range d.below(dos + 1) {
			switch d.below(6) {
			case 0:
				all[i] = append(all[i], add(int64(d.below(1000))-500))
			case 1, 2:
				all[i] = append(all[i], send(d.below(processes), int64(d.below(100))-50))
			case 3:
				all[i] = append(all[i], fold())
			default:
				all[i] = append(all[i], end())
			}
		}
	}
	return all
}

func TestP9RunIsTheMeaning(t *testing.T) {
	d := dice(1)
	for range 300 {
		all := throw(&d, d.below(10), 15)
		numbers, phases := meaning(all)
		hold(t, "thrown", all, numbers, phases)
	}
	for range 3 {
		all := throw(&d, api.MaxTasks, 40)
		numbers, phases := meaning(all)
		hold(t, "thrown, great", all, numbers, phases)
	}
}

// filled: as many processes as may be, each doing this as often as may be.
func filled(do func(process, at int) api.Do) [][]api.Do {
	all := make([][]api.Do, api.MaxTasks)
	for i := range all {
		for at := range api.MaxOps {
			all[i] = append(all[i], do(i, at))
		}
	}
	return all
}

func TestP9RunAtTheLimits(t *testing.T) {
	zeros := make([]int64, api.MaxTasks)
	hold(t, "phases", filled(func(_, _ int) api.Do { return end() }), zeros, api.MaxOps)
	hold(t, "sent to one", filled(func(_, _ int) api.Do { return send(7, 1) }), zeros, 1)
	all := filled(func(process, at int) api.Do {
		switch {
		case at < api.MaxOps-2:
			return send((process+at)%api.MaxTasks, int64(process*at))
		case at == api.MaxOps-2:
			return end()
		}
		return fold()
	})
	want := make([]int64, api.MaxTasks)
	for from := range all {
		for at := range api.MaxOps - 2 {
			to := (from + at) % api.MaxTasks
			want[to] = 31*want[to] + int64(from*at)
		}
	}
	hold(t, "sent to all", all, want, 2)
	longest := [][]api.Do{nil, nil}
	for at := range api.MaxOps {
		longest[1] = append(longest[1], []api.Do{send(1, int64(at)), end(), fold(), end()}[at%4])
	}
	numbers, phases := meaning(longest)
	hold(t, "to itself, again and again", longest, numbers, phases)
}

func TestP9RunErrArgOfWorkers(t *testing.T) {
	for _, workers := range []int{math.MinInt, -1, 0, api.MaxWorkers + 1, math.MaxInt} {
		for _, all := range [][][]api.Do{{{add(1), end()}}, nil} {
			if numbers, phases, err := phase.Run(all, workers); err != api.ErrArg || numbers != nil || phases != 0 {
				t.Error(workers, numbers, phases, err)
			}
		}
		if _, _, err := phase.Run(processesOf(api.MaxTasks+1, 1), workers); err != api.ErrLarge {
			t.Error("Check comes first:", err)
		}
	}
}

// goroutines: how many there are. runtime.NumGoroutine is not asked: it adds up numbers that change meanwhile, and may be wrong by dozens; a profile stops all others while it counts, even one for which there is no room.
func goroutines() int {
	n, _ := runtime.GoroutineProfile(make([]runtime.StackRecord, 1))
	return n
}

// settled: how many goroutines there are, when those that are just leaving have been given time to do so.
func settled(want int) int {
	n := goroutines()
	for range 5000 {
		if n <= want {
			break
		}
		time.Sleep(time.Millisecond)
		n = goroutines()
	}
	return n
}

// watch counts goroutines, its own too, till it is over, and then tells the greatest number.
func watch(over <-chan struct{}, seen chan<- int) {
	most := 0
	for {
		select {
		case <-over:
			seen <- most
			return
		default:
			most = max(most, goroutines())
		}
	}
}

// Looking on from beside may miss some goroutines, but never sees more than there are.
func TestP9RunNoMoreThanWorkers(t *testing.T) {
	const workers = 2
	all := filled(func(process, at int) api.Do {
		return []api.Do{send(process, 1), fold(), fold(), end()}[at%4]
	})
	over, seen := make(chan struct{}), make(chan int)
	before := goroutines() + 1
	go watch(over, seen)
	for range 5 {
		phase.Run(all, workers)
		settled(before)
	}
	close(over)
	if most := <-seen - before; most > workers {
		t.Error("goroutines beside the test's own:", most)
	}
}

func TestP1GoroutinesHaveEnded(t *testing.T) {
	before := goroutines()
	d := dice(3)
	for range 50 {
		phase.Run(throw(&d, 20, 20), api.MaxWorkers)
		phase.Run(nil, api.MaxWorkers)
		phase.Run([][]api.Do{nil, {end()}}, api.MaxWorkers)
		phase.Run([][]api.Do{{{}}}, api.MaxWorkers)
	}
	if after := settled(before); after > before {
		t.Error("goroutines are left:", after-before)
	}
}

// marked: the list with marks in the room behind it.
func marked[T any](l []T, mark T) []T {
	return append(slices.Clone(l), mark, mark, mark)[:len(l)]
}

// behind: the list, and the marks in the room behind it.
func behind[T any](l []T) []T { return l[:len(l)+3] }

func TestP2NothingIsChangedOrKept(t *testing.T) {
	d := dice(4)
	mark := api.Do{Kind: -7, To: -7, N: -7}
	for range 20 {
		thrown := throw(&d, 1+d.below(10), 12)
		all := marked(thrown, []api.Do{mark})
		for i := range thrown {
			all[i] = marked(thrown[i], mark)
		}
		for workers := 1; workers <= api.MaxWorkers; workers++ {
			phase.Run(all, workers)
			phase.Check(all)
		}
		for i := range thrown {
			if !slices.Equal(behind(all[i]), append(slices.Clone(thrown[i]), mark, mark, mark)) {
				t.Fatal("changed:", i, behind(all[i]))
			}
		}
		for _, room := range behind(all)[len(all):] {
			if !slices.Equal(room, []api.Do{mark}) {
				t.Fatal("changed behind the processes:", room)
			}
		}
	}
	all := [][]api.Do{{add(3), send(1, 4), end()}, {fold(), end(), fold()}}
	hold(t, "first", all, []int64{3, 7}, 2)
	all[0][0], all[1][0] = add(5), add(1)
	hold(t, "as it is now", all, []int64{5, 31 + 9}, 2)
}

func TestP2AnswersAreNewMemory(t *testing.T) {
	all := [][]api.Do{{add(3), send(1, 4), end()}, {fold(), end(), fold()}}
	first, _, _ := phase.Run(all, 2)
	second, _, _ := phase.Run(all, 2)
	first = first[:cap(first)]
	for i := range first {
		first[i] = -1
	}
	if !slices.Equal(second, []int64{3, 7}) {
		t.Error("two answers share memory:", second)
	}
	hold(t, "behind a spoilt answer", all, []int64{3, 7}, 2)
}

// Lists may stand several times in what is handed in, and be used by others meanwhile.
func TestP2CallsSideBySide(t *testing.T) {
	d := dice(5)
	all := throw(&d, 20, 40)
	all = append(all, all...)
	wantNumbers, wantPhases := meaning(all)
	var calls sync.WaitGroup
	for workers := 1; workers <= 8; workers++ {
		calls.Go(func() {
			for range 20 {
				numbers, phases, err := phase.Run(all, workers)
				if err != api.OK || !slices.Equal(numbers, wantNumbers) || phases != wantPhases {
					t.Error(workers, numbers, phases, err)
				}
			}
		})
	}
	calls.Wait()
}
