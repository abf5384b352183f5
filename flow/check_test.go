package flow_test

import (
	"math"
	"slices"
	"testing"

	"lockstep/api"
	"lockstep/flow"
)

func source(out int, list ...int64) api.Node {
	return api.Node{Kind: api.Source, Out: []int{out}, List: list}
}
func mapped(in, out int, n int64) api.Node {
	return api.Node{Kind: api.Map, In: []int{in}, Out: []int{out}, N: n}
}
func keep(in, out int, n int64) api.Node {
	return api.Node{Kind: api.Keep, In: []int{in}, Out: []int{out}, N: n}
}
func split(in, first, second int) api.Node {
	return api.Node{Kind: api.Split, In: []int{in}, Out: []int{first, second}}
}
func zip(first, second, out int) api.Node {
	return api.Node{Kind: api.Zip, In: []int{first, second}, Out: []int{out}}
}
func turns(first, second, out int) api.Node {
	return api.Node{Kind: api.Turns, In: []int{first, second}, Out: []int{out}}
}
func delay(in, out int, list ...int64) api.Node {
	return api.Node{Kind: api.Delay, In: []int{in}, Out: []int{out}, List: list}
}
func sink(in int, n int64) api.Node {
	return api.Node{Kind: api.Sink, In: []int{in}, N: n}
}
func both(in, first, second int) api.Node {
	return api.Node{Kind: api.Both, In: []int{in}, Out: []int{first, second}}
}

// ofEachKind: a sound node of each kind, over the channels 0 to 3.
func ofEachKind() []api.Node {
	return []api.Node{source(2), mapped(0, 2, 0), keep(0, 2, 1), split(0, 2, 3), zip(0, 1, 2), turns(0, 1, 2), delay(0, 2), sink(0, 0), both(0, 2, 3)}
}

// changed: a copy of the node, with one thing otherwise.
func changed(n api.Node, change func(n *api.Node)) api.Node {
	n.In, n.Out, n.List = slices.Clone(n.In), slices.Clone(n.Out), slices.Clone(n.List)
	change(&n)
	return n
}

type checkCase struct {
	what            string
	l               []api.Node
	channels, limit int
	want            api.Errno
}

// holdCases: Check says what is wanted, and Run says the same error with nothing beside it, whether its workers are right or wrong.
func holdCases(t *testing.T, cases []checkCase) {
	t.Helper()
	for _, c := range cases {
		if got := flow.Check(c.l, c.channels, c.limit); got != c.want {
			t.Errorf("%s: Check says %d, not %d", c.what, got, c.want)
		}
		for _, workers := range []int{1, api.MaxWorkers, 0} {
			lists, got := flow.Run(c.l, c.channels, c.limit, workers)
			want := c.want
			if want == api.OK && workers == 0 {
				want = api.ErrArg
			}
			if got != want {
				t.Errorf("%s: Run with %d workers says %d, not %d", c.what, workers, got, want)
			}
			if got != api.OK && lists != nil {
				t.Errorf("%s: an answer beside the error %d: %v", c.what, got, lists)
			}
			if got == api.OK && len(lists) != c.channels {
				t.Errorf("%s: %d lists of %d channels", c.what, len(lists), c.channels)
			}
		}
	}
}

func TestP10CheckTakesWhatIsSound(t *testing.T) {
	var most []api.Node
	for i := range api.MaxCells {
		most = append(most, source(i), sink(i, 1))
	}
	cases := []checkCase{
		{"nothing", nil, 0, 0, api.OK},
		{"no nodes", []api.Node{}, 1, 1, api.OK},
		{"channels alone", nil, api.MaxCells, api.MaxOps, api.OK},
		{"the last channel", []api.Node{delay(api.MaxCells-1, api.MaxCells-1, 1)}, api.MaxCells, api.MaxOps, api.OK},
		{"as many nodes as may be", most, api.MaxCells, 1, api.OK},
		{"lists as long as may be", []api.Node{source(0, make([]int64, api.MaxOps)...), delay(0, 1, make([]int64, api.MaxOps)...)}, 2, api.MaxOps, api.OK},
		{"a list that is longer than the limit", []api.Node{source(0, 1, 2, 3)}, 1, 0, api.OK},
		{"the least N", []api.Node{mapped(0, 1, math.MinInt64), keep(1, 2, 1), sink(2, 0)}, 3, 1, api.OK},
		{"the greatest N", []api.Node{mapped(0, 1, math.MaxInt64), keep(1, 2, math.MaxInt64), sink(2, math.MaxInt64)}, 3, 1, api.OK},
		{"a channel that is read by who writes it", []api.Node{zip(0, 1, 0), both(2, 1, 2)}, 3, 1, api.OK},
	}
	for _, n := range ofEachKind() {
		cases = append(cases, checkCase{"each kind", []api.Node{n}, 4, 1, api.OK})
		n = changed(n, func(n *api.Node) { n.List = []int64{} })
		cases = append(cases, checkCase{"each kind, with an empty list", []api.Node{n}, 4, 1, api.OK})
	}
	holdCases(t, cases)
}

func TestP10CheckErrArgOfChannelsAndLimit(t *testing.T) {
	holdCases(t, []checkCase{
		{"channels below 0", nil, -1, 1, api.ErrArg},
		{"channels far below 0", nil, math.MinInt, 1, api.ErrArg},
		{"too many channels", nil, api.MaxCells + 1, 1, api.ErrArg},
		{"far too many channels", nil, math.MaxInt, 1, api.ErrArg},
		{"a limit below 0", nil, 1, -1, api.ErrArg},
		{"a limit far below 0", nil, 1, math.MinInt, api.ErrArg},
		{"too great a limit", nil, 1, api.MaxOps + 1, api.ErrArg},
		{"far too great a limit", nil, 1, math.MaxInt, api.ErrArg},
	})
}

func TestP10CheckErrArgOfNodes(t *testing.T) {
	var cases []checkCase
	wrong := func(what string, n api.Node, change func(n *api.Node)) {
		sound, wrong := source(3), changed(n, change)
		if n.Kind == api.Split || n.Kind == api.Both {
			sound = sink(1, 0)
		}
		cases = append(cases, checkCase{what, []api.Node{wrong}, 4, 1, api.ErrArg}, checkCase{what + ", behind another", []api.Node{sound, wrong}, 4, 1, api.ErrArg})
	}
	for _, n := range ofEachKind() {
		wrong("one In more", n, func(n *api.Node) { n.In = append(n.In, 3) })
		wrong("one Out more", n, func(n *api.Node) { n.Out = append(n.Out, 1) })
		for _, no := range []int{-1, 4, math.MinInt, math.MaxInt} {
			for i := range n.In {
				wrong("an In that is no channel", n, func(n *api.Node) { n.In[i] = no })
			}
			for i := range n.Out {
				wrong("an Out that is no channel", n, func(n *api.Node) { n.Out[i] = no })
			}
		}
		if len(n.In) > 0 {
			wrong("one In less", n, func(n *api.Node) { n.In = n.In[1:] })
		}
		if len(n.Out) > 0 {
			wrong("one Out less", n, func(n *api.Node) { n.Out = n.Out[1:] })
		}
		if n.Kind != api.Source && n.Kind != api.Delay {
			wrong("a list of one", n, func(n *api.Node) { n.List = []int64{0} })
			wrong("a list that would be too long", n, func(n *api.Node) { n.List = make([]int64, api.MaxOps+1) })
		}
		for _, no := range notN(n.Kind) {
			wrong("an N that may not be", n, func(n *api.Node) { n.N = no })
		}
		for _, no := range []int{0, -1, 10, math.MinInt, math.MaxInt} {
			wrong("a kind that is not known", n, func(n *api.Node) { n.Kind = no })
		}
	}
	wrong("nothing of a node", api.Node{}, func(*api.Node) {})
	cases = append(cases, checkCase{"a channel where there is none", []api.Node{source(0)}, 0, 1, api.ErrArg})
	holdCases(t, cases)
}

// notN: some of the N that a kind may not have.
func notN(kind int) []int64 {
	switch kind {
	case api.Map:
		return nil
	case api.Keep:
		return []int64{0, -1, math.MinInt64}
	case api.Sink:
		return []int64{-1, math.MinInt64}
	}
	return []int64{1, -1, math.MinInt64, math.MaxInt64}
}

func TestP10CheckErrLarge(t *testing.T) {
	long := make([]int64, api.MaxOps+1)
	holdCases(t, []checkCase{
		{"too many nodes", slices.Repeat([]api.Node{source(0)}, api.MaxTasks+1), 1, 1, api.ErrLarge},
		{"too long a list of a Source", []api.Node{source(0, long...)}, 1, 1, api.ErrLarge},
		{"too long a list of a Delay", []api.Node{delay(0, 0, long...)}, 1, 1, api.ErrLarge},
		{"too long a list of the last node", []api.Node{source(0), sink(0, 1), source(1, long...)}, 2, api.MaxOps, api.ErrLarge},
	})
}

func TestP10CheckErrTwice(t *testing.T) {
	holdCases(t, []checkCase{
		{"two Outs of two nodes", []api.Node{source(0, 1), source(0, 1)}, 1, 1, api.ErrTwice},
		{"two Outs of two nodes, by the second", []api.Node{split(0, 1, 2), both(3, 4, 2)}, 5, 1, api.ErrTwice},
		{"two Outs of one Split", []api.Node{split(0, 1, 1)}, 2, 1, api.ErrTwice},
		{"two Outs of one Both", []api.Node{both(0, 1, 1)}, 2, 1, api.ErrTwice},
		{"two Ins of two nodes", []api.Node{sink(0, 1), sink(0, 1)}, 1, 1, api.ErrTwice},
		{"two Ins of two nodes, by the second", []api.Node{zip(0, 1, 3), turns(2, 1, 4)}, 5, 1, api.ErrTwice},
		{"two Ins of one Zip", []api.Node{zip(0, 0, 1)}, 2, 1, api.ErrTwice},
		{"two Ins of one Turns", []api.Node{turns(0, 0, 1)}, 2, 1, api.ErrTwice},
		{"the first and the last node", []api.Node{sink(3, 0), source(3), mapped(1, 2, 0), sink(3, 0)}, 4, 1, api.ErrTwice},
		{"the last channel", []api.Node{source(api.MaxCells - 1), source(api.MaxCells - 1)}, api.MaxCells, 1, api.ErrTwice},
		{"with a limit of 0, and no numbers", []api.Node{source(0), source(0)}, 1, 0, api.ErrTwice},
	})
}

func TestP10CheckOrderOfErrors(t *testing.T) {
	many := slices.Repeat([]api.Node{source(0)}, api.MaxTasks+1)
	long := source(0, make([]int64, api.MaxOps+1)...)
	wrong := source(1)
	holdCases(t, []checkCase{
		{"wrong behind too many nodes", append(slices.Clone(many), wrong), 1, 1, api.ErrArg},
		{"wrong behind too long a list", []api.Node{long, wrong}, 1, 1, api.ErrArg},
		{"wrong ahead of too long a list", []api.Node{wrong, long}, 1, 1, api.ErrArg},
		{"wrong with too long a list", []api.Node{changed(long, func(n *api.Node) { n.N = 1 })}, 1, 1, api.ErrArg},
		{"wrong behind two of one channel", []api.Node{source(0), source(0), wrong}, 1, 1, api.ErrArg},
		{"wrong channels and too many nodes", many, -1, 1, api.ErrArg},
		{"wrong channels and two of one channel", []api.Node{source(0), source(0)}, api.MaxCells + 1, 1, api.ErrArg},
		{"a wrong limit and too many nodes", many, 1, -1, api.ErrArg},
		{"a wrong limit and two of one channel", []api.Node{source(0), source(0)}, 1, api.MaxOps + 1, api.ErrArg},
		{"too long a list behind two of one channel", []api.Node{source(0), source(0), long}, 1, 1, api.ErrLarge},
		{"too long a list ahead of two of one channel", []api.Node{long, source(0)}, 1, 1, api.ErrLarge},
	})
}
