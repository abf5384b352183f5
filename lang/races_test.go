package lang_test

import (
	"testing"

	"lockstep/api"
	"lockstep/lang"
)

// read the program of a text that is one.
func read(t *testing.T, text string) []api.Stat {
	t.Helper()
	l, fault := lang.Read(text)
	if fault != (api.Fault{}) {
		t.Fatalf("%q: %v", text, fault)
	}
	return l
}

func TestP23RacesSmall(t *testing.T) {
	free := []string{
		"", "x = 1; x = x + 1", "par { }", "par { x = x + 1; x += x }",
		"par { x = 1 } and { y = 1 }", "par { x = y } and { z = y }", "par { x += 1 } and { x += 2 }", "par { x += 1 } and { x += 1 } and { x += y }",
		"par { x += y } and { z += y }", "par { if x { } } and { y = x }", "par { if x { } else { } } and { if x { } }",
		"par { x = 1; y = x } and { z = 1; ab = z }", "x = 1; par { x += 2 } and { y = 3 }; y = x",
		"par { x = 1 }; par { x = 2 }", "repeat 3 { par { x = 1 } and { y = 2 } }",
		"par { par { x += 1 } and { x += 1 } } and { x += 1 }", "if x { par { x = 1 } } else { par { x = 1 } }",
		"par { x = 1; x += x } and { xx = 1; xx += xx }",
	}
	for _, text := range free {
		if err := lang.Races(read(t, text)); err != api.OK {
			t.Errorf("%q: error %d", text, err)
		}
	}
	blocks := [][2]string{
		{"x = 1", "x = 2"}, {"x = 1", "x = 1"}, {"x = 1", "x += 1"}, {"x = 1", "y = x"}, {"x = 1", "y += x"}, {"x = 1", "if x { }"}, {"x += 1", "y = x"}, {"x += 1", "y += x"}, {"x += 1", "if x { }"}, {"x += 1", "x += x"}, {"x = x", "x += 1"}, {"x += 0", "if 1 + 2 * (3 - x) { y = 1 }"},
		{"x = 1", "y = 2 - (y * x + 1)"}, {"x += x", "x += x"}, {"y = 1; x = 1; z = 1", "ab = 1; a = x"},
		{"x = 1", "if 0 { } else { x = 1 }"}, {"x = 1", "if 0 { x += 1 }"}, {"x = 1", "repeat 0 { y = x }"}, {"repeat 0 { x += 1 }", "repeat 0 { if x { } }"}, {"if 0 { x = 1 }", "if 0 { x = 1 }"},
		{"par { x = 1 }", "x = 1"}, {"par { } and { y = 1 } and { x = 1 }", "par { z = x }"}, {"par { par { x += 1 } and { x += 1 } }", "y = x"}, {"repeat 2 { if 1 { par { z = 1 } and { x = 1 } } }", "par { if 1 { } else { repeat 3 { x += 1 } } }"},
	}
	for _, b := range blocks {
		for _, text := range []string{
			"par { " + b[0] + " } and { " + b[1] + " }",
			"par { " + b[1] + " } and { " + b[0] + " }",
			"par { " + b[0] + " } and { } and { q = 1 } and { " + b[1] + " }",
			"par { } and { " + b[1] + " } and { w = 1 } and { } and { " + b[0] + " } and { }",
			"q = 1; par { q = 1 }; par { " + b[0] + " } and { " + b[1] + " }; q = 1",
			"repeat 0 { par { " + b[0] + " } and { " + b[1] + " } }",
			"if 0 { par { " + b[0] + " } and { " + b[1] + " } }",
			"if 1 { } else { q = 1; par { " + b[0] + " } and { " + b[1] + " } }",
			"par { q = 1 } and { if 1 { repeat 2 { par { " + b[0] + " } and { " + b[1] + " } } } }",
			"par { par { " + b[0] + " } and { " + b[1] + " } }",
		} {
			if err := lang.Races(read(t, text)); err != api.ErrRace {
				t.Errorf("%q: error %d", text, err)
			}
		}
		for _, text := range []string{b[0] + "; " + b[1], "par { " + b[0] + "; " + b[1] + " }", "par { " + b[0] + " }; par { " + b[1] + " }", "if 1 { " + b[0] + " } else { " + b[1] + " }", "repeat 2 { " + b[0] + "; par { " + b[1] + " } }"} {
			if err := lang.Races(read(t, text)); err != api.OK {
				t.Errorf("%q: error %d, though they are not side by side", text, err)
			}
		}
	}
}

// three lists of names: what is assigned, added to, and read in a block, by the words.
type three struct{ assigned, added, read []string }

func (n *three) see(l []api.Stat) {
	for _, s := range l {
		switch s.Kind {
		case api.Assign:
			n.assigned = append(n.assigned, s.Name)
		case api.Add:
			n.added = append(n.added, s.Name)
		}
		n.seeExpr(s.E)
		for _, block := range s.Blocks {
			n.see(block)
		}
	}
}

func (n *three) seeExpr(e api.Expr) {
	if e.Kind == api.Name {
		n.read = append(n.read, e.Name)
	}
	for _, kid := range e.Kids {
		n.seeExpr(kid)
	}
}

func meet(a, b []string) bool {
	for _, x := range a {
		for _, y := range b {
			if x == y {
				return true
			}
		}
	}
	return false
}

// racesByWords: each two blocks of each Par are held against one another.
func racesByWords(l []api.Stat) bool {
	for _, s := range l {
		for i, block := range s.Blocks {
			if racesByWords(block) {
				return true
			}
			for j, other := range s.Blocks {
				var one, two three
				one.see(block)
				two.see(other)
				if s.Kind == api.Par && i != j && (meet(one.assigned, two.assigned) || meet(one.assigned, two.added) || meet(one.assigned, two.read) || meet(one.added, two.read)) {
					return true
				}
			}
		}
	}
	return false
}

func TestP23RacesThrown(t *testing.T) {
	for names := 1; names <= 10; names += 3 {
		free, races := 0, 0
		throw(t, dice(20+names), 1000, names, func(l []api.Stat) {
			want := api.OK
			if racesByWords(l) {
				want = api.ErrRace
				races++
			} else {
				free++
			}
			if err := lang.Races(l); err != want {
				t.Fatalf("%s: error %d, not %d", byWords(l), err, want)
			}
		})
		if free < 50 || races < 50 {
			t.Error("too few of one kind:", free, races)
		}
	}
}

// turned: the blocks of each Par the other way round.
func turned(l []api.Stat) []api.Stat {
	var to []api.Stat
	for _, s := range l {
		var blocks [][]api.Stat
		for i := range s.Blocks {
			if s.Kind == api.Par {
				i = len(s.Blocks) - 1 - i
			}
			blocks = append(blocks, turned(s.Blocks[i]))
		}
		s.Blocks = blocks
		to = append(to, s)
	}
	return to
}

// A program without races has one outcome: also if the blocks are done from the last one on.
func TestP23WithoutRacesOneOutcome(t *testing.T) {
	held := 0
	throw(t, 30, 3000, 10, func(l []api.Stat) {
		other := turned(l)
		if lang.Races(l) != api.OK || same(other, l) {
			return
		}
		vars, took, err := lang.Mean(l, nil, 10000)
		if err != api.OK {
			return
		}
		held++
		hold(t, other, nil, vars, took)
	})
	if held < 200 {
		t.Error("too few programs without races:", held)
	}
}
