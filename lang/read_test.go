package lang_test

import (
	"slices"
	"strings"
	"testing"

	"lockstep/api"
	"lockstep/lang"
)

// holdRead: Read answers this program.
func holdRead(t *testing.T, text string, want []api.Stat) {
	t.Helper()
	l, fault := lang.Read(text)
	if fault != (api.Fault{}) || !same(l, want) {
		t.Fatalf("%.200q: %v, %v, not %v", text, l, fault, want)
	}
}

// holdFault: Read says that, and nothing beside it.
func holdFault(t *testing.T, text string, code api.Errno, at int) {
	t.Helper()
	if l, fault := lang.Read(text); fault != (api.Fault{Code: code, At: at}) || l != nil {
		t.Errorf("%.200q: %v, error %d at %d, not %d at %d", text, l, fault.Code, fault.At, code, at)
	}
}

func TestP22ReadSmall(t *testing.T) {
	x, y, z := name("x"), name("y"), name("z")
	one, two, three := num(1), num(2), num(3)
	isOne := assign("x", one)
	cases := []struct {
		text string
		want []api.Stat
	}{
		{"", nil},
		{" \n\n  ", nil},
		{"x = 1", list(isOne)},
		{"x=1", list(isOne)},
		{"\nx\n=\n1\n", list(isOne)},
		{"x = 1;", list(isOne)},
		{"x = 1 ; ", list(isOne)},
		{"x = 1; y += 2", list(isOne, add("y", two))},
		{"x=1;y+=2;", list(isOne, add("y", two))},
		{"x = 0", list(assign("x", num(0)))},
		{"x = 1000000000", list(assign("x", num(maxNumber)))},
		{"abcdefgh = zzzzzzzz", list(assign("abcdefgh", name("zzzzzzzz")))},
		{"ifx = elsey + repeatz * part - andy", list(assign("ifx", of(api.Less, of(api.Sum, name("elsey"), of(api.Times, name("repeatz"), name("part"))), name("andy"))))},
		{"x = y + z", list(assign("x", of(api.Sum, y, z)))},
		{"x = y - z", list(assign("x", of(api.Less, y, z)))},
		{"x = y * z", list(assign("x", of(api.Times, y, z)))},
		{"x = 1 + 2 + 3", list(assign("x", of(api.Sum, of(api.Sum, one, two), three)))},
		{"x = 1 - 2 - 3", list(assign("x", of(api.Less, of(api.Less, one, two), three)))},
		{"x = 1 - 2 + 3", list(assign("x", of(api.Sum, of(api.Less, one, two), three)))},
		{"x = 1 + 2 - 3", list(assign("x", of(api.Less, of(api.Sum, one, two), three)))},
		{"x = 1 * 2 * 3", list(assign("x", of(api.Times, of(api.Times, one, two), three)))},
		{"x = 1 + 2 * 3", list(assign("x", of(api.Sum, one, of(api.Times, two, three))))},
		{"x = 1 * 2 - 3", list(assign("x", of(api.Less, of(api.Times, one, two), three)))},
		{"x = 1 - (2 - 3)", list(assign("x", of(api.Less, one, of(api.Less, two, three))))},
		{"x = (1 + 2) * 3", list(assign("x", of(api.Times, of(api.Sum, one, two), three)))},
		{"x = 1 * (2 * 3)", list(assign("x", of(api.Times, one, of(api.Times, two, three))))},
		{"x = ((((1))))", list(isOne)},
		{"x=(1+2)*(3)", list(assign("x", of(api.Times, of(api.Sum, one, two), three)))},
		{"if x { }", list(when(x, nil))},
		{"if x{}else{}", list(when(x, nil, nil))},
		{"if(x){x=1}", list(when(x, list(isOne)))},
		{"if1{}", list(when(one, nil))},
		{"if x { x = 1 } else { x = 1; x = 1; }; x = 1", list(when(x, list(isOne), list(isOne, isOne)), isOne)},
		{"if x { if y { } else { x = 1 } }", list(when(x, list(when(y, nil, list(isOne)))))},
		{"if x { if y { } } else { x = 1 }", list(when(x, list(when(y, nil)), list(isOne)))},
		{"repeat 0 { }", list(repeat(0))},
		{"repeat1000{x=1}", list(repeat(maxTimes, isOne))},
		{"par { }", list(par(nil))},
		{"par{x=1}and{}and{x=1;x=1}", list(par(list(isOne), nil, list(isOne, isOne)))},
		{"par { } and { } and { } and { } and { } and { } and { } and { }", list(par(make([][]api.Stat, maxBlocks)...))},
		{"par { par { } and { } } and { }", list(par(list(par(nil, nil)), nil))},
		{"x = 1; par { x += 2 } and { y = 3 }", list(isOne, par(list(add("x", two)), list(assign("y", three))))},
	}
	for _, c := range cases {
		holdRead(t, c.text, c.want)
		if at := stuckAt(c.text); at >= 0 {
			t.Errorf("%q: the grammar is stuck at %d", c.text, at)
		}
	}
}

func TestP22ReadErrSyntax(t *testing.T) {
	eight := "par { }" + strings.Repeat(" and { }", 7)
	cases := []struct {
		text string
		at   int
	}{
		{"x", 1}, {"x ", 2}, {"x =", 3}, {"x = ", 4}, {"x = \n", 5}, {"x +=", 4}, {"if", 2}, {"if x", 4}, {"repeat", 6}, {"repeat 3", 8}, {"par", 3}, {"par ", 4},
		{"x = 1 +", 7}, {"x = (", 5}, {"x = (1", 6}, {"x = (1 + 2", 10}, {"if x {", 6}, {"if x { } else", 13}, {"if x { } else {", 15}, {"par { } and", 11}, {"par { x = 1", 11}, {"par { x = 1 ;", 13},
		{"x = 01", 4}, {"x = 00", 4}, {"x = 0", -1}, {"x = 1000000001", 4}, {"x = 10000000000", 4}, {"x = 9223372036854775808", 4}, {"x = 18446744073709551617", 4}, {"x = 1 + 2000000000", 8},
		{"x = " + strings.Repeat("9", 1000), 4}, {"x = 0" + strings.Repeat("0", 1000), 4},
		{"repeat 1001 { }", 7}, {"repeat 1000000000 { }", 7}, {"repeat 01 { }", 7}, {"repeat 00 { }", 7}, {"repeat 18446744073709551617 { }", 7},
		{"repeat x { }", 7}, {"repeat (3) { }", 7}, {"repeat { }", 7}, {"repeat 3 3 { }", 9}, {"repeat 3 + 1 { }", 9}, {"repeat -1 { }", 7},
		{"if = 1", 3}, {"else = 1", 0}, {"repeat = 1", 7}, {"par = 1", 4}, {"and = 1", 0}, {"x = if", 4}, {"x = else", 4}, {"x = and", 4}, {"x = par", 4}, {"x = repeat", 4},
		{"x = 1 y = 2", 6}, {"x = 1 2", 6}, {"x = y z", 6}, {"x y = 1", 2}, {"x = 1y", 5}, {"x1 = 1", 1}, {"1x = 1", 0}, {"1", 0},
		{";", 0}, {" ;", 1}, {"x = 1;;", 6}, {"x = 1; ;", 7}, {"{ }", 0}, {"}", 0}, {"x = 1 }", 6}, {"x = 1; }", 7}, {"if x { ; }", 7}, {"if x { x = 1;; }", 13}, {"if x { };;", 9},
		{"if x { } y = 1", 9}, {"if x { }; else { }", 10}, {"if x { } else { } else { }", 18}, {"repeat 3 { } else { }", 13}, {"if x { } and { }", 9}, {"par { } else { }", 8}, {"if { }", 3}, {"if x ( )", 5}, {"if x y", 5}, {"if x { } else if y { }", 14},
		{"par { } and and { }", 12}, {"par { }; and { }", 9}, {"par { } { }", 8}, {"par x = 1", 4}, {"par and { }", 4},
		{eight, -1}, {eight + " and { }", len(eight) + 1}, {eight + " and", len(eight) + 1}, {eight + "; and", len(eight) + 2},
		{"x = -1", 4}, {"x = +1", 4}, {"x = 1 - -1", 8}, {"x = 1 + + 1", 8}, {"x = * 1", 4}, {"x = 1 * * 1", 8}, {"x = 1 *", 7}, {"x = ()", 5}, {"x = )", 4}, {"x = (1))", 7}, {"x = 1)", 5}, {"x = (1 2)", 7}, {"x = (y = 1)", 7}, {"(x) = 1", 0}, {"x = (1;)", 6},
		{"x + = 1", 2}, {"x == 1", 3}, {"x = = 1", 4}, {"x =+ 1", 3}, {"x =+= 1", 3}, {"x = 1 += 2", 6}, {"x = 1+=2", 5}, {"x +== 1", 4}, {"x += += 1", 5}, {"x - = 1", 2}, {"x * y", 2}, {"= 1", 0}, {"+= 1", 0}, {"+", 0},
		{"abcdefghi = 1", 0}, {"x = abcdefghi", 4}, {"x = 1; repeating = 1", 7}, {"if abcdefghi { }", 3}, {"parparpar { }", 0}, {"x = 1 abcdefghi", 6},
		{"@", 0}, {"x = 1 @", 6}, {"x @ 1", 2}, {"x = 1;\t", 6}, {"\tx = 1", 0}, {"x = 1\r\n", 5}, {"x = 1\x00", 5}, {"X = 1", 0}, {"xY = 1", 1}, {"x = 1.5", 5}, {"x_y = 1", 1}, {"x = 1 // y", 6}, {"x = 1, y", 5}, {"x = [1]", 4}, {"x = 1 / 2", 6}, {"x = \"1\"", 4}, {"x\u00a0= 1", 1}, {"é = 1", 0}, {"x = é", 4}, {"aé = 1", 1}, {"x = １", 4}, {"x \xff", 2}, {"\xff", 0}, {"x = 1; \xe2\x82", 7}, {"x = 1 é é", 6},
		{"x = 1; y", 8}, {"x = 1\ny = 2", 6}, {"x = 1:", 5}, {"x = 1/", 5}, {"x` = 1", 1}, {"x| = 1", 1}, {"x{", 1},
	}
	for _, c := range cases {
		if at := stuckAt(c.text); at != c.at {
			t.Errorf("%.50q: the grammar is stuck at %d, not %d", c.text, at, c.at)
		}
		if c.at < 0 {
			if _, fault := lang.Read(c.text); fault != (api.Fault{}) {
				t.Errorf("%q: %v", c.text, fault)
			}
			continue
		}
		holdFault(t, c.text, api.ErrSyntax, c.at)
	}
}

// allTokens, by one text each; the last ones are such as no text can go on with.
var allTokens = []string{"x", "if", "else", "repeat", "par", "and", "7", "1001", "=", "+=", "+", "-", "*", ";", "{", "}", "(", ")", "abcdefghi", "00", "@"}

// grow all texts of at most so many tokens more, as long as they can go on.
func grow(t *testing.T, k *looker, text string, more int, count *int) {
	*count++
	want := api.Fault{}
	if !k.over() {
		want = api.Fault{Code: api.ErrSyntax, At: len(text)}
	}
	if _, fault := lang.Read(text); fault != want {
		t.Fatalf("%q: %v, not %v", text, fault, want)
	}
	if more == 0 {
		return
	}
	for _, piece := range allTokens {
		tokens := tokensOf(piece)
		if !k.take(tokens[0]) {
			holdFault(t, text+piece+" ", api.ErrSyntax, len(text))
			continue
		}
		grow(t, k, text+piece+" ", more-1, count)
		k.back()
	}
}

func TestP22ReadAllShortTexts(t *testing.T) {
	count := 0
	grow(t, newLooker(), "", 7, &count)
	if count < 3000 {
		t.Error("too few texts:", count)
	}
}

// all statements, one behind the other.
func (s *spelt) all(l []api.Stat) {
	for i := range l {
		if i > 0 {
			s.put(";")
		}
		s.stat(&l[i])
	}
	if len(l) > 0 && s.below(3) == 0 {
		s.put(";")
	}
}

func (s *spelt) stat(stat *api.Stat) {
	between := "else"
	switch stat.Kind {
	case api.Assign:
		s.put(stat.Name)
		s.put("=")
		s.expr(&stat.E, 1)
	case api.Add:
		s.put(stat.Name)
		s.put("+=")
		s.expr(&stat.E, 1)
	case api.If:
		s.put("if")
		s.expr(&stat.E, 1)
	case api.Repeat:
		s.put("repeat")
		s.number(stat.N)
	case api.Par:
		s.put("par")
		between = "and"
	}
	for i, block := range stat.Blocks {
		if i > 0 {
			s.put(between)
		}
		s.put("{")
		s.all(block)
		s.put("}")
	}
}

// expr where none may stand that binds less.
func (s *spelt) expr(e *api.Expr, least int) {
	binds := []int{api.Number: 3, api.Name: 3, api.Sum: 1, api.Less: 1, api.Times: 2}[e.Kind]
	if binds < least || s.below(5) == 0 {
		s.put("(")
		defer s.put(")")
		if s.below(2) == 0 {
			s.expr(e, 1)
			return
		}
	}
	switch e.Kind {
	case api.Number:
		s.number(e.N)
	case api.Name:
		s.put(e.Name)
	default:
		s.expr(&e.Kids[0], binds)
		s.put([]string{api.Sum: "+", api.Less: "-", api.Times: "*"}[e.Kind])
		s.expr(&e.Kids[1], binds+1)
	}
}

// spell the program in any of its ways.
func spell(d *dice, l []api.Stat) string {
	s := spelt{dice: d}
	s.all(l)
	for s.below(3) == 0 {
		s.text = append(s.text, '\n')
	}
	return string(s.text)
}

// throw programs that are not too large, and do something with each.
func throw(t *testing.T, seed dice, count, names int, do func(l []api.Stat)) {
	t.Helper()
	ops := 0
	for range count {
		l := seed.stats(4, 4, names)
		if n := opsOf(l); n <= api.MaxOps {
			ops += n
			do(l)
		}
	}
	if ops < 10*count {
		t.Error("the programs that are thrown are too small:", ops)
	}
}

func TestP22ReadThrown(t *testing.T) {
	d := dice(11)
	throw(t, 1, 3000, 10, func(l []api.Stat) {
		holdRead(t, spell(&d, l), l)
	})
}

// spoil a text: some of its bytes are left out, doubled, or put for others.
func (d *dice) spoil(text string) string {
	b := []byte(text)
	for range 1 + d.below(2) {
		at := d.below(len(b) + 1)
		to := min(len(b), at+d.below(4))
		b = slices.Replace(b, at, to, []byte(append(allTokens, "", "", " ", "é")[d.below(len(allTokens)+4)])...)
	}
	return string(b[:len(b)-d.below(2)*d.below(len(b)+1)])
}

func TestP22ReadSpoiltTexts(t *testing.T) {
	d := dice(12)
	wrong := 0
	for range 4000 {
		text := d.spoil(spell(&d, d.stats(3, 3, 10)))
		if len(text) > 150 {
			continue
		}
		if at := stuckAt(text); at >= 0 {
			wrong++
			holdFault(t, text, api.ErrSyntax, at)
		} else if _, fault := lang.Read(text); fault != (api.Fault{}) {
			t.Errorf("%q: %v", text, fault)
		}
	}
	if wrong < 1000 {
		t.Error("too few texts that can't go on:", wrong)
	}
}

// nested: the text within so many of those ahead and behind.
func nested(ahead, text, behind string, levels int) string {
	return strings.Repeat(ahead, levels) + text + strings.Repeat(behind, levels)
}

func TestP22ReadErrLarge(t *testing.T) {
	sum := func(terms int) string { return "x = 1" + strings.Repeat(" + 1", terms-1) }
	statements := func(count int) string { return strings.Repeat("par { };", count) }
	assigns := strings.Repeat("x = 1;", api.MaxOps/2)
	cases := []struct {
		text  string
		large bool
	}{
		{statements(api.MaxOps), false}, {statements(api.MaxOps + 1), true}, {statements(100 * api.MaxOps), true},
		{assigns, false}, {assigns + "par { }", true}, {"repeat 0 { }; " + assigns, true},
		{"repeat 1 { " + assigns[6:] + " }; par { }", false}, {"repeat 1 { " + assigns + " }", true},
		{"if 1 { } else { " + assigns[6:] + " }", false}, {"if 1 { par { } } else { " + assigns[6:] + " }", true},
		{nested("par { ", "par { }", " }", maxDepth-1), false}, {nested("par { ", "par { }", " }", maxDepth), true},
		{nested("repeat 1 { ", "x = 1", " }", maxDepth-2), false}, {nested("repeat 1 { ", "x = 1", " }", maxDepth-1), true},
		{nested("if x { ", "", " }", maxDepth-1), false}, {nested("if x { ", "", " }", maxDepth), true},
		{nested("if x { } else { ", "", " }", maxDepth-1), false}, {nested("if x { } else { ", "", " }", maxDepth), true},
		{sum(maxDepth - 1), false}, {sum(maxDepth), true}, {sum(200 * api.MaxOps), true},
		{nested("x = ", "1", "", 1), false}, {"x = " + nested("1 - (", "1", ")", maxDepth-2), false}, {"x = " + nested("1 - (", "1", ")", maxDepth-1), true},
		{"x = " + nested("(", "1", ")", 5000), false}, {"x = " + nested("(", "1", ")", 1<<16-1), false}, {"x = " + nested("(", "1", ")", 1000) + " + " + nested("(", "y", ")", 1000), false},
		{nested("if 1 { ", "", "}", 1<<16-1), true}, {nested("par { ", "x = 1", "}", 1<<16-2), true}, {"x = " + nested("1 * (", "1", ")", 1<<16-2), true},
	}
	for _, c := range cases {
		if c.large {
			holdFault(t, c.text, api.ErrLarge, 0)
			holdFault(t, c.text+" @", api.ErrSyntax, len(c.text)+1)
			holdFault(t, c.text[:len(c.text)-1]+" @", api.ErrSyntax, len(c.text))
		} else if l, fault := lang.Read(c.text); fault != (api.Fault{}) || opsOf(l) > api.MaxOps || depthOf(l) > maxDepth {
			t.Errorf("%.50q: %v, %d ops, %d deep", c.text, fault, opsOf(l), depthOf(l))
		}
	}
	open := statements(200 * api.MaxOps)
	holdFault(t, open+"@", api.ErrSyntax, len(open))
	many := statements(2 * api.MaxOps)
	holdFault(t, many+"if x { }; x = 1 + 2000000000", api.ErrSyntax, len(many)+18)
	holdFault(t, "x = y +; "+many, api.ErrSyntax, 7)
	holdFault(t, nested("par { ", "", " }", 2000)[:12000+2000], api.ErrSyntax, 14000)
}

// A product of two balanced sums is not deep, but may have as many ops as there may be.
func TestP22ReadAtTheLimits(t *testing.T) {
	e := sums(api.MaxOps - 1)
	text, err := lang.Write(list(assign("x", e)))
	if err != api.OK {
		t.Fatal(err)
	}
	holdRead(t, text, list(assign("x", e)))
	holdFault(t, text+"; par { }", api.ErrLarge, 0)
	holdFault(t, "par { };"+text, api.ErrLarge, 0)
}

// Texts that are nested beyond all that is promised are answered too.
func TestP1ReadAnswersWhateverIsNested(t *testing.T) {
	for _, piece := range []string{"(", "1+(", "x = (", "if 1 {", "par{", "repeat 1{x=1;"} {
		lang.Read(strings.Repeat(piece, 1000000))
		lang.Read("x = " + strings.Repeat(piece, 1000000))
	}
}
