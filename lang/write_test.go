package lang_test

import (
	"strconv"
	"strings"
	"testing"

	"lockstep/api"
	"lockstep/lang"
)

// holdWrite: Write answers this text, which is read as the program.
func holdWrite(t *testing.T, l []api.Stat, want string) {
	t.Helper()
	if text, err := lang.Write(l); err != api.OK || text != want {
		t.Fatalf("%v: %q, error %d, not %q", l, text, err, want)
	}
	holdRead(t, want, l)
}

func TestP22WriteSmall(t *testing.T) {
	x := name("x")
	isOne := assign("x", num(1))
	cases := []struct {
		l    []api.Stat
		want string
	}{
		{nil, ""},
		{list(isOne), "x = 1"},
		{list(assign("x", num(0)), add("abcdefgh", num(maxNumber))), "x = 0; abcdefgh += 1000000000"},
		{list(when(x, nil)), "if x { }"},
		{list(when(x, nil, nil)), "if x { } else { }"},
		{list(when(x, list(isOne), nil)), "if x { x = 1 } else { }"},
		{list(when(x, nil, list(isOne, isOne))), "if x { } else { x = 1; x = 1 }"},
		{list(repeat(0)), "repeat 0 { }"},
		{list(repeat(maxTimes, isOne, isOne)), "repeat 1000 { x = 1; x = 1 }"},
		{list(par(nil)), "par { }"},
		{list(par(nil, list(isOne), nil)), "par { } and { x = 1 } and { }"},
		{list(par(make([][]api.Stat, maxBlocks)...)), "par { }" + strings.Repeat(" and { }", maxBlocks-1)},
		{list(isOne, par(list(add("x", num(2))), list(assign("y", num(3)))), isOne), "x = 1; par { x += 2 } and { y = 3 }; x = 1"},
		{list(repeat(3, when(of(api.Sum, x, num(1)), list(par(list(isOne), nil))))), "repeat 3 { if x + 1 { par { x = 1 } and { } } }"},
		{list(when(of(api.Times, of(api.Less, x, num(1)), x), nil)), "if (x - 1) * x { }"},
	}
	for _, c := range cases {
		holdWrite(t, c.l, c.want)
	}
}

func TestP22WriteBrackets(t *testing.T) {
	a, b, c := name("a"), name("b"), name("c")
	cases := []struct {
		e    api.Expr
		want string
	}{
		{a, "a"},
		{of(api.Sum, a, b), "a + b"}, {of(api.Less, a, b), "a - b"}, {of(api.Times, a, b), "a * b"},
		{of(api.Sum, of(api.Sum, a, b), c), "a + b + c"}, {of(api.Sum, a, of(api.Sum, b, c)), "a + (b + c)"},
		{of(api.Sum, of(api.Less, a, b), c), "a - b + c"}, {of(api.Sum, a, of(api.Less, b, c)), "a + (b - c)"},
		{of(api.Sum, of(api.Times, a, b), c), "a * b + c"}, {of(api.Sum, a, of(api.Times, b, c)), "a + b * c"},
		{of(api.Less, of(api.Sum, a, b), c), "a + b - c"}, {of(api.Less, a, of(api.Sum, b, c)), "a - (b + c)"},
		{of(api.Less, of(api.Less, a, b), c), "a - b - c"}, {of(api.Less, a, of(api.Less, b, c)), "a - (b - c)"},
		{of(api.Less, of(api.Times, a, b), c), "a * b - c"}, {of(api.Less, a, of(api.Times, b, c)), "a - b * c"},
		{of(api.Times, of(api.Sum, a, b), c), "(a + b) * c"}, {of(api.Times, a, of(api.Sum, b, c)), "a * (b + c)"},
		{of(api.Times, of(api.Less, a, b), c), "(a - b) * c"}, {of(api.Times, a, of(api.Less, b, c)), "a * (b - c)"},
		{of(api.Times, of(api.Times, a, b), c), "a * b * c"}, {of(api.Times, a, of(api.Times, b, c)), "a * (b * c)"},
		{of(api.Less, num(1), of(api.Times, of(api.Less, num(2), num(3)), num(4))), "1 - (2 - 3) * 4"},
		{of(api.Times, of(api.Times, a, of(api.Sum, b, c)), of(api.Times, of(api.Sum, a, of(api.Sum, b, c)), c)), "a * (b + c) * ((a + (b + c)) * c)"},
	}
	for _, c := range cases {
		holdWrite(t, list(assign("x", c.e)), "x = "+c.want)
		holdWrite(t, list(when(c.e, list(add("y", c.e)))), "if "+c.want+" { y += "+c.want+" }")
	}
}

// byWords: the text that the document asks for.
func byWords(l []api.Stat) string {
	var all []string
	for _, s := range l {
		words := map[int]string{
			api.Assign: s.Name + " = ", api.Add: s.Name + " += ",
			api.If: "if ", api.Repeat: "repeat " + strconv.Itoa(int(s.N)) + " ", api.Par: "par ",
		}[s.Kind]
		if s.E.Kind != 0 {
			words += exprByWords(s.E)
		}
		var blocks []string
		for _, block := range s.Blocks {
			blocks = append(blocks, strings.ReplaceAll("{ "+byWords(block)+" }", "{  }", "{ }"))
		}
		if s.Kind == api.If {
			words += " "
		}
		all = append(all, words+strings.Join(blocks, map[int]string{api.If: " else ", api.Par: " and "}[s.Kind]))
	}
	return strings.Join(all, "; ")
}

// exprByWords: brackets stand about a Sum or Less that is in a Times, or the second of a Sum or Less; and about a Times that is the second of a Times.
func exprByWords(e api.Expr) string {
	switch e.Kind {
	case api.Number:
		return strconv.Itoa(int(e.N))
	case api.Name:
		return e.Name
	}
	var parts []string
	for i, kid := range e.Kids {
		part := exprByWords(kid)
		low := kid.Kind == api.Sum || kid.Kind == api.Less
		if low && (e.Kind == api.Times || i == 1) || kid.Kind == api.Times && e.Kind == api.Times && i == 1 {
			part = "(" + part + ")"
		}
		parts = append(parts, part)
	}
	return strings.Join(parts, map[int]string{api.Sum: " + ", api.Less: " - ", api.Times: " * "}[e.Kind])
}

func TestP22WriteThrown(t *testing.T) {
	throw(t, 2, 3000, 10, func(l []api.Stat) { holdWrite(t, l, byWords(l)) })
}

// pairs of brackets in the text: where each is opened and closed.
func pairs(text string) [][2]int {
	var open []int
	var l [][2]int
	for at, c := range text {
		switch c {
		case '(':
			open = append(open, at)
		case ')':
			l = append(l, [2]int{open[len(open)-1], at})
			open = open[:len(open)-1]
		}
	}
	return l
}

// Without any one pair of its brackets the text is another program's.
func TestP22WriteNoBracketsInVain(t *testing.T) {
	count := 0
	throw(t, 3, 500, 3, func(l []api.Stat) {
		text, _ := lang.Write(l)
		for _, p := range pairs(text) {
			count++
			without := text[:p[0]] + text[p[0]+1:p[1]] + text[p[1]+1:]
			if other, fault := lang.Read(without); fault.Code != api.OK || same(other, l) {
				t.Fatalf("%q: the same as %q", without, text)
			}
		}
	})
	if count < 500 {
		t.Error("too few brackets:", count)
	}
}

// What is read from any text is written so that it is read again.
func TestP22WriteWhatWasRead(t *testing.T) {
	d := dice(13)
	throw(t, 4, 1000, 10, func(l []api.Stat) {
		was, _ := lang.Read(spell(&d, l))
		holdWrite(t, was, byWords(l))
	})
}
