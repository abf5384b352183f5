package laid_test

import (
	"math"
	"slices"
	"testing"

	"lockstep/api"
	"lockstep/laid"
)

func num(n int64) api.Expr { return api.Expr{Kind: api.Number, N: n} }

func name(text string) api.Expr { return api.Expr{Kind: api.Name, Name: text} }

func of(kind int, kids ...api.Expr) api.Expr { return api.Expr{Kind: kind, Kids: kids} }

func repeat(times int64, block ...api.Stat) api.Stat {
	return api.Stat{Kind: api.Repeat, N: times, Blocks: [][]api.Stat{block}}
}

func TestNamesOfStartAndProgram(t *testing.T) {
	l := []api.Stat{repeat(0, api.Stat{Kind: api.Add, Name: "z", E: of(api.Sum, name("ab"), name("z"))}), {Kind: api.If, E: name("b"), Blocks: make([][]api.Stat, 1)}}
	start := []api.Var{{Name: "q", N: 5}, {Name: "b", N: 6}}
	names := laid.Names(l, start)
	if !slices.Equal(names, []string{"ab", "b", "q", "z"}) {
		t.Fatal(names)
	}
	numbers := laid.Numbers(names, start)
	if !slices.Equal(numbers, []int64{0, 6, 5, 0}) {
		t.Fatal(numbers)
	}
	if told := laid.Tell(names, numbers); !slices.Equal(told, []api.Var{{Name: "ab"}, {Name: "b", N: 6}, {Name: "q", N: 5}, {Name: "z"}}) {
		t.Error(told)
	}
}

// What can take no step is left out, the blocks of a Par too; an If takes one, whatever it does then.
func TestDownLeavesOutWhatIsIdle(t *testing.T) {
	set := api.Stat{Kind: api.Assign, Name: "x", E: num(1)}
	none := api.Stat{Kind: api.If, E: name("x"), Blocks: make([][]api.Stat, 2)}
	idle := []api.Stat{
		repeat(5), repeat(0, set), repeat(5, repeat(0, set)), repeat(1000, repeat(1000)),
		{Kind: api.Par, Blocks: make([][]api.Stat, 8)}, {Kind: api.Par, Blocks: [][]api.Stat{{repeat(5)}, {repeat(0, set)}}},
	}
	if l := laid.Down(idle, []string{"x"}); len(l) != 0 {
		t.Error("not left out:", l)
	}
	busy := []api.Stat{set, none, repeat(1, none), repeat(2, repeat(5), set), {Kind: api.Par, Blocks: [][]api.Stat{{repeat(5)}, {set}}}}
	l := laid.Down(slices.Concat(idle, busy, idle), []string{"x"})
	if len(l) != len(busy) || len(l[3].Blocks[0]) != 1 || len(l[1].Blocks) != 2 || len(l[4].Blocks) != 1 || len(l[4].Blocks[0]) != 1 {
		t.Error("left out:", l)
	}
}

func TestValue(t *testing.T) {
	names := []string{"a", "x", "y"}
	numbers := []int64{7, -3, 1 << 62}
	for _, c := range []struct {
		e    api.Expr
		want int64
	}{
		{num(5), 5}, {name("x"), -3}, {name("a"), 7},
		{of(api.Sum, name("x"), num(10)), 7}, {of(api.Less, name("x"), num(10)), -13}, {of(api.Times, name("a"), name("x")), -21},
		{of(api.Less, num(1), of(api.Less, num(2), num(3))), 2},
		{of(api.Sum, name("y"), name("y")), -1 << 63}, {of(api.Times, name("y"), num(4)), 0},
	} {
		l := laid.Down([]api.Stat{{Kind: api.Assign, Name: "y", E: c.e}}, names)
		if got := l[0].E.Value(func(place int) int64 { return numbers[place] }); got != c.want || l[0].Place != 2 {
			t.Error(c.e, got, c.want)
		}
	}
}

func TestLeft(t *testing.T) {
	set := api.Stat{Kind: api.Assign, Name: "x", E: num(1)}
	when := func(blocks ...[]api.Stat) api.Stat { return api.Stat{Kind: api.If, E: name("x"), Blocks: blocks} }
	one, two := []api.Stat{set}, []api.Stat{set, set}
	endless := set
	for range 40 {
		endless = repeat(1000, endless)
	}
	for _, c := range []struct {
		l    []api.Stat
		need int
	}{
		{nil, 0}, {one, 1}, {two, 2}, {[]api.Stat{when(two)}, 1}, {[]api.Stat{when(two, one)}, 2}, {[]api.Stat{when(nil, one)}, 1},
		{[]api.Stat{repeat(5, two...)}, 10}, {[]api.Stat{repeat(1000, repeat(1000, set), set)}, 1001000}, {[]api.Stat{repeat(1000)}, 0},
		{[]api.Stat{{Kind: api.Par, Blocks: [][]api.Stat{one, nil, two}}, set}, 4},
		{[]api.Stat{when([]api.Stat{endless})}, 1}, {[]api.Stat{when([]api.Stat{endless}, one)}, 2}, {[]api.Stat{when(two, []api.Stat{endless})}, 3},
	} {
		l := laid.Down(c.l, []string{"x"})
		for _, steps := range []int{c.need, c.need + 1, math.MaxInt32, math.MaxInt64} {
			if left := laid.Left(l, steps); left != steps-c.need {
				t.Error(c.l, steps, left)
			}
		}
		if left := laid.Left(l, c.need-1); left >= 0 {
			t.Error(c.l, "with too few", left)
		}
	}
	for _, steps := range []int{0, 1, 1000, math.MaxInt64} {
		if left := laid.Left(laid.Down([]api.Stat{set, endless, set}, []string{"x"}), steps); left >= 0 {
			t.Error("endless", steps, left)
		}
	}
}
