package shard_test

import (
	"math"
	"math/big"
	"slices"
	"strconv"
	"strings"
	"testing"

	"lockstep/api"
	"lockstep/shard"
)

func term(name string, args ...api.Term) api.Term { return api.Term{Name: name, Args: args} }

// under: the term within so many others.
func under(levels int, t api.Term) api.Term {
	for range levels {
		t = term("f", t)
	}
	return t
}

// doubled: terms of two equal args, which are one list in memory for each level.
func doubled(levels int, t api.Term) api.Term {
	for range levels {
		t = term("f", t, t)
	}
	return t
}

// termsOf: so many of them, of so many names.
func termsOf(count, names int) []api.Term {
	l := make([]api.Term, count)
	for i := range l {
		l[i] = term(strconv.Itoa(i % names))
	}
	return l
}

// written: a term as a text that no other term has. The lengths stand ahead, so that a name may have any bytes.
func written(t api.Term) string {
	var b strings.Builder
	b.WriteString(strconv.Itoa(len(t.Name)) + ":" + t.Name + strconv.Itoa(len(t.Args)) + "(")
	for _, arg := range t.Args {
		b.WriteString(written(arg))
	}
	b.WriteString(")")
	return b.String()
}

// interned is what is known of the terms that were gone through, one behind the other.
type interned struct {
	known map[string]int
	table []api.Entry
}

func (in *interned) id(t api.Term) int {
	e := api.Entry{Key: t.Name, Kind: len(t.Args), N: 7}
	for _, arg := range t.Args {
		e.N = 31*e.N + int64(in.id(arg))
	}
	text := written(t)
	if _, there := in.known[text]; !there {
		in.known[text] = len(in.table)
		in.table = append(in.table, e)
	}
	return in.known[text]
}

func meaningOfTerms(l []api.Term) (ids []int, table []api.Entry) {
	in := interned{known: map[string]int{}}
	for _, t := range l {
		ids = append(ids, in.id(t))
	}
	return ids, in.table
}

// holdTerms: Intern answers what is wanted, however many work.
func holdTerms(t *testing.T, what string, l []api.Term, wantIDs []int, wantTable []api.Entry) {
	t.Helper()
	for workers := 1; workers <= api.MaxWorkers; workers++ {
		holdTermsBy(t, what, workers, l, wantIDs, wantTable)
	}
}

func holdTermsBy(t *testing.T, what string, workers int, l []api.Term, wantIDs []int, wantTable []api.Entry) {
	t.Helper()
	ids, table, err := shard.Intern(l, workers)
	if err != api.OK || !slices.Equal(ids, wantIDs) || !slices.Equal(table, wantTable) {
		t.Fatalf("%s: %d workers: error %d, %d ids %v, not %v; %d entries %v, not %v", what, workers, err,
			len(ids), ids[:min(len(ids), 10)], wantIDs[:min(len(wantIDs), 10)],
			len(table), table[:min(len(table), 10)], wantTable[:min(len(wantTable), 10)])
	}
}

type termCase struct {
	what  string
	l     []api.Term
	ids   []int
	table []api.Entry
}

func holdTermCases(t *testing.T, cases []termCase) {
	t.Helper()
	for _, c := range cases {
		holdTerms(t, c.what, c.l, c.ids, c.table)
		if ids, table := meaningOfTerms(c.l); !slices.Equal(ids, c.ids) || !slices.Equal(table, c.table) {
			t.Error(c.what, "means", ids, table)
		}
	}
}

// entry of a term with these ids of its args.
func entry(name string, args ...int64) api.Entry {
	e := api.Entry{Key: name, Kind: len(args), N: 7}
	for _, arg := range args {
		e.N = 31*e.N + arg
	}
	return e
}

func TestP14InternSmall(t *testing.T) {
	a, b := term("a"), term("b")
	holdTermCases(t, []termCase{
		{"nothing", nil, nil, nil},
		{"an empty list", []api.Term{}, nil, nil},
		{"one", []api.Term{a}, []int{0}, []api.Entry{{Key: "a", N: 7}}},
		{"the empty name", []api.Term{{}}, []int{0}, []api.Entry{{N: 7}}},
		{"Args that are an empty list", []api.Term{a, {Name: "a", Args: []api.Term{}}}, []int{0, 0}, []api.Entry{entry("a")}},
		{"two, and again", []api.Term{b, a, b, a, a}, []int{0, 1, 0, 1, 1}, []api.Entry{entry("b"), entry("a")}},
		{"behind its Args", []api.Term{term("f", a, b)}, []int{2}, []api.Entry{entry("a"), entry("b"), {Key: "f", Kind: 2, N: 31*(31*7+0) + 1}}},
		{"from the left", []api.Term{term("f", b, a)}, []int{2}, []api.Entry{entry("b"), entry("a"), {Key: "f", Kind: 2, N: 31*(31*7+0) + 1}}},
		{"equal Args", []api.Term{term("f", a, a), a, term("f", a, a), term("f")}, []int{1, 0, 1, 2}, []api.Entry{entry("a"), entry("f", 0, 0), entry("f")}},
		{"an Arg within an Arg", []api.Term{term("f", term("g", a), b)}, []int{3}, []api.Entry{entry("a"), entry("g", 0), entry("b"), entry("f", 1, 2)}},
		{"one comes first within another", []api.Term{term("f", term("g", b)), a, b, term("g", b)}, []int{2, 3, 0, 1}, []api.Entry{entry("b"), entry("g", 0), entry("f", 1), entry("a")}},
		{"one within itself, as it were", []api.Term{term("f", term("f", term("f")))}, []int{2}, []api.Entry{entry("f"), entry("f", 0), entry("f", 1)}},
	})
}

// Terms that are alike, and not equal.
func TestP14InternEqualOnesAndNoOthers(t *testing.T) {
	a, b := term("a"), term("b")
	holdTermCases(t, []termCase{
		{"Args in another order", []api.Term{term("f", a, b), term("f", b, a), term("f", a, b)}, []int{2, 3, 2}, []api.Entry{entry("a"), entry("b"), entry("f", 0, 1), entry("f", 1, 0)}},
		{"more Args", []api.Term{term("f"), term("f", a), term("f", a, a), term("f", a, a, a)}, []int{0, 2, 3, 4}, []api.Entry{entry("f"), entry("a"), entry("f", 1), entry("f", 1, 1), entry("f", 1, 1, 1)}},
		{"another name", []api.Term{term("f", a), term("g", a), term("", a), term("F", a)}, []int{1, 2, 3, 4}, []api.Entry{entry("a"), entry("f", 0), entry("g", 0), entry("", 0), entry("F", 0)}},
		{"bound together otherwise", []api.Term{term("f", term("g", a), b), term("f", term("g", a, b)), term("f", a, term("g", b))}, []int{3, 5, 7}, []api.Entry{entry("a"), entry("g", 0), entry("b"), entry("f", 1, 2), entry("g", 0, 2), entry("f", 4), entry("g", 2), entry("f", 0, 6)}},
		{"names with signs in them", []api.Term{term("f(a)"), term("f", a), term("f,a"), term("f", term(",a")), term("f a")}, []int{0, 2, 3, 5, 6}, []api.Entry{entry("f(a)"), entry("a"), entry("f", 1), entry("f,a"), entry(",a"), entry("f", 4), entry("f a")}},
		{"names with bytes 0", []api.Term{term("a\x00"), a, term("\x00a"), term("\x00"), term(""), term("\x00\x00\x00\x00")}, []int{0, 1, 2, 3, 4, 5}, []api.Entry{entry("a\x00"), entry("a"), entry("\x00a"), entry("\x00"), entry(""), entry("\x00\x00\x00\x00")}},
		{"names that are no good text", []api.Term{term("\xff"), term("\xfe"), term("\ufffd"), term("\xff")}, []int{0, 1, 2, 0}, []api.Entry{entry("\xff"), entry("\xfe"), entry("\ufffd")}},
		{"equal ones that stand apart in memory", []api.Term{term("f", term(strings.Clone("long name"))), term("f", term(strings.Clone("long name")))}, []int{1, 1}, []api.Entry{entry("long name"), entry("f", 0)}},
	})
}

// However a number may be spelt in bytes: a name that is made of such bytes is a name.
func TestP14InternNamesLikeNumbers(t *testing.T) {
	var l []api.Term
	for n := range 4 {
		for width := range 10 {
			for _, fill := range []string{"\x00", "0", "\x01"} {
				digit := string([]byte{byte(n)})
				tail, head := digit+strings.Repeat(fill, width), strings.Repeat(fill, width)+digit
				l = append(l, term(tail), term(head), term("x"+tail), term(tail+"x"), term("x", term(tail)), term(tail, term("x")), term(head+tail), term(head, term(tail)))
			}
		}
	}
	ids, table := meaningOfTerms(l)
	holdTerms(t, "names like numbers", l, ids, table)
}

// N runs over: it is held against numbers without bounds.
func TestP14InternNRunsOver(t *testing.T) {
	args := termsOf(1000, 300)
	_, table, err := shard.Intern([]api.Term{term("f", args...)}, 4)
	if err != api.OK || len(table) != 301 {
		t.Fatal(len(table), err)
	}
	n := big.NewInt(7)
	for i := range args {
		n.Mul(n, big.NewInt(31))
		n.Add(n, big.NewInt(int64(i%300)))
	}
	n.And(n, new(big.Int).SetUint64(math.MaxUint64))
	if want := (api.Entry{Key: "f", Kind: 1000, N: int64(n.Uint64())}); table[300] != want {
		t.Error(table[300], "not", want)
	}
}

// term of a few names, so that equal ones come often.
func (d *dice) term(depth, names, args int) api.Term {
	t := term("n" + strconv.Itoa(d.below(names)))
	if depth > 1 {
		for range d.below(args + 1) {
			t.Args = append(t.Args, d.term(depth-1-d.below(2), names, args))
		}
	}
	return t
}

func (d *dice) terms(count, depth, names, args int) []api.Term {
	l := make([]api.Term, count)
	for i := range l {
		l[i] = d.term(depth, names, args)
	}
	return l
}

func TestP14InternIsTheMeaning(t *testing.T) {
	d := dice(3)
	equal := 0
	for range 300 {
		l := d.terms(d.below(12), 1+d.below(5), 1+d.below(3), 3)
		ids, table := meaningOfTerms(l)
		equal += len(ids) - len(slices.Compact(slices.Sorted(slices.Values(ids))))
		holdTerms(t, "thrown", l, ids, table)
	}
	if equal < 100 {
		t.Error("the dice throw too few equal ones:", equal)
	}
	for range 5 {
		l := d.terms(1000, 6, 5, 3)
		ids, table := meaningOfTerms(l)
		holdTerms(t, "thrown, great", l, ids, table)
	}
	for range 5 {
		l := d.terms(2, 40, 3, 2)
		ids, table := meaningOfTerms(l)
		holdTerms(t, "thrown, deep", l, ids, table)
	}
}

// apart: terms of one Arg each, and the ids of these Args are 2^16 apart, two by two.
func apart() []api.Term {
	l := termsOf(70000, 70000)
	for i := range 4000 {
		l = append(l, term("g", l[i]), term("g", l[i+1<<16]))
	}
	return l
}

func TestP14InternAtTheLimits(t *testing.T) {
	wide := term("f", termsOf(api.MaxItems-1, 70000)...)
	cases := []struct {
		what string
		l    []api.Term
	}{
		{"as many as may be", termsOf(api.MaxItems, api.MaxItems)},
		{"as many as may be, of few names", termsOf(api.MaxItems, 3)},
		{"as many within one as may be", []api.Term{wide}},
		{"as many in all as may be", append(termsOf(api.MaxItems-60001, 50), term("g", termsOf(60000, 100)...))},
		{"great ids", apart()},
		{"as deep as may be", []api.Term{under(99, term("a"))}},
		{"as deep as may be, often", slices.Repeat([]api.Term{under(99, term("a")), under(99, term("b"))}, 500)},
		{"the longest name", []api.Term{term(letters(100), term(letters(99))), term(letters(100))}},
		{"the longest name, of letters of two bytes", []api.Term{term(strings.Repeat("\u00e9", 50))}},
		{"one list at many places", []api.Term{doubled(15, term("a")), doubled(14, term("a"))}},
	}
	for _, c := range cases {
		ids, table := meaningOfTerms(c.l)
		for _, workers := range []int{1, 2, 7, api.MaxWorkers} {
			holdTermsBy(t, c.what, workers, c.l, ids, table)
		}
	}
}

type wrongCase struct {
	what string
	l    []api.Term
	want api.Errno
}

// holdWrong: Intern says the error that is wanted, with no lists beside it. Of the errors of what is handed in ErrArg comes first, also that of the workers.
func holdWrong(t *testing.T, cases []wrongCase) {
	t.Helper()
	for _, c := range cases {
		for _, workers := range []int{1, 7, api.MaxWorkers, 0, -1, api.MaxWorkers + 1, math.MinInt, math.MaxInt} {
			want := c.want
			if workers < 1 || workers > api.MaxWorkers {
				want = api.ErrArg
			}
			ids, table, err := shard.Intern(c.l, workers)
			if err != want {
				t.Errorf("%s: %d workers: error %d, not %d", c.what, workers, err, want)
			}
			if err != api.OK && (ids != nil || table != nil) {
				t.Errorf("%s: lists beside the error %d", c.what, err)
			}
		}
	}
}

func TestP14InternErrArg(t *testing.T) {
	long := term(letters(101))
	holdWrong(t, []wrongCase{
		{"nothing wrong but the workers", []api.Term{term("a")}, api.OK},
		{"nothing at all", nil, api.OK},
		{"a name that is too long", []api.Term{long}, api.ErrArg},
		{"a name that is far too long", []api.Term{term(letters(100000))}, api.ErrArg},
		{"a name of few letters and too many bytes", []api.Term{term(strings.Repeat("\u20ac", 34))}, api.ErrArg},
		{"a long name of one with Args", []api.Term{term(letters(101), term("a"))}, api.ErrArg},
		{"a long name, the last one", append(termsOf(100, 100), long), api.ErrArg},
		{"a long name, the first one", append([]api.Term{long}, termsOf(100, 100)...), api.ErrArg},
		{"a long name of an Arg", []api.Term{term("f", term("a"), term("b"), long)}, api.ErrArg},
		{"a long name of the first Arg", []api.Term{term("f", long, term("a")), term("b")}, api.ErrArg},
		{"a long name far below", []api.Term{term("a"), under(99, long)}, api.ErrArg},
	})
}

func TestP14InternErrLarge(t *testing.T) {
	holdWrong(t, []wrongCase{
		{"too many terms", termsOf(api.MaxItems+1, 5), api.ErrLarge},
		{"far too many terms", termsOf(10*api.MaxItems, 5), api.ErrLarge},
		{"too many within one", []api.Term{term("f", termsOf(api.MaxItems, 5)...)}, api.ErrLarge},
		{"far too many within one", []api.Term{term("f", termsOf(5*api.MaxItems, 5)...)}, api.ErrLarge},
		{"too many in all", append(termsOf(api.MaxItems-60000, 50), term("g", termsOf(60000, 100)...)), api.ErrLarge},
		{"too many in all, the other way round", append([]api.Term{term("g", termsOf(60000, 100)...)}, termsOf(api.MaxItems-60000, 50)...), api.ErrLarge},
		{"too deep", []api.Term{under(100, term("a"))}, api.ErrLarge},
		{"too deep at one place", []api.Term{term("a"), term("f", term("a"), under(99, term("b")), term("c"))}, api.ErrLarge},
		{"too deep, the last one", append(termsOf(1000, 7), under(100, term("a"))), api.ErrLarge},
		{"far too deep", []api.Term{under(1<<16-1, term("a"))}, api.ErrLarge},
		{"one list at too many places", []api.Term{doubled(16, term("a"))}, api.ErrLarge},
	})
}

// countOf: how many terms a list has, those within others too.
func countOf(l []api.Term) int {
	count := len(l)
	for _, t := range l {
		count += countOf(t.Args)
	}
	return count
}

// comb: a term that is so deep, with one without Args ahead of each Arg and one behind it.
func comb(levels int, t api.Term) api.Term {
	for range levels {
		t = term("f", term("a"), t, term("b"))
	}
	return t
}

// deepest: the term with these at the right of its first Args, as far below as there are any.
func deepest(t api.Term, more []api.Term) api.Term {
	if len(t.Args) == 0 {
		return term(t.Name, more...)
	}
	args := slices.Clone(t.Args)
	args[0] = deepest(args[0], more)
	return term(t.Name, args...)
}

// filled: the terms with others without Args, so that there are so many in all, which stand at different places.
func filled(l []api.Term, total int) map[string][]api.Term {
	more := termsOf(total-countOf(l), 7)
	last := len(l) - 1
	behind := slices.Clone(l)
	behind[last] = term(l[last].Name, append(slices.Clone(l[last].Args), more...)...)
	ahead := slices.Clone(l)
	ahead[0] = term(l[0].Name, append(slices.Clone(more), l[0].Args...)...)
	below := slices.Clone(l)
	below[0] = deepest(l[0], more)
	return map[string][]api.Term{
		"ahead of the list": append(slices.Clone(more), l...),
		"behind the list":   append(slices.Clone(l), more...),
		"the last Args":     behind,
		"the first Args":    ahead,
		"Args far below":    below,
	}
}

// Wherever they stand, each term is one: as many as may be are taken, and not one more.
func TestP14InternCountsAllTerms(t *testing.T) {
	d := dice(8)
	shapes := map[string][]api.Term{
		"one":            {term("a")},
		"one within one": {under(1, term("a"))},
		"a short chain":  {under(2, term("a"))},
		"a chain":        {under(98, term("a"))},
		"chains":         {under(50, term("a")), under(98, term("b")), under(3, term("c"))},
		"a comb":         {comb(90, term("a"))},
		"combs":          {comb(3, term("a")), comb(40, term("b"))},
		"doubled":        {doubled(10, term("a"))},
		"thrown":         d.terms(50, 8, 3, 3),
	}
	for what, l := range shapes {
		for _, over := range []int{0, 1, 2, 90} {
			for where, whole := range filled(l, api.MaxItems+over) {
				if count := countOf(whole); count != api.MaxItems+over {
					t.Fatal("the test itself can't count:", what, where, count)
				}
				holdCount(t, what+", filled up: "+where, whole, over)
			}
		}
	}
}

// holdCount: terms that are so many over MaxItems are taken if they are none, with one id for each of the list, and else are too many.
func holdCount(t *testing.T, what string, l []api.Term, over int) {
	t.Helper()
	ids, table, err := shard.Intern(l, 2)
	switch {
	case over <= 0 && (err != api.OK || len(ids) != len(l) || len(table) == 0):
		t.Errorf("%s, %d over: error %d, %d ids, %d entries", what, over, err, len(ids), len(table))
	case over > 0 && (err != api.ErrLarge || ids != nil || table != nil):
		t.Errorf("%s, %d over: error %d, %d ids, %d entries", what, over, err, len(ids), len(table))
	}
}

func TestP14InternOrderOfErrors(t *testing.T) {
	long := term(letters(101))
	holdWrong(t, []wrongCase{
		{"a long name behind too many terms", append(termsOf(api.MaxItems+1, 5), long), api.ErrArg},
		{"a long name ahead of too many terms", append([]api.Term{long}, termsOf(api.MaxItems+1, 5)...), api.ErrArg},
		{"a long name behind too many within one", []api.Term{term("f", termsOf(api.MaxItems, 5)...), long}, api.ErrArg},
		{"a long name, too deep", []api.Term{under(100, long)}, api.ErrArg},
		{"a long name, far too deep", []api.Term{under(1<<16-1, long)}, api.ErrArg},
		{"a long name behind what is too deep", []api.Term{under(100, term("a")), long}, api.ErrArg},
		{"a long name beside what is too deep", []api.Term{term("f", under(100, term("a")), long)}, api.ErrArg},
	})
}

// What is small in memory may be greater than can be gone through term by term.
func TestP1InternEndsWhateverIsShared(t *testing.T) {
	long := term(letters(101))
	ring := []api.Term{term("a"), term("b"), term("c")}
	ring[0].Args, ring[1].Args = ring, ring[1:]
	wrongRing := slices.Clone(ring)
	wrongRing[0].Args, wrongRing[1].Args, wrongRing[2] = wrongRing[:2], wrongRing, long
	list := []api.Term{term("a"), term("b"), long}
	wide := slices.Repeat([]api.Term{term("f", termsOf(api.MaxItems-1, 5)...)}, api.MaxItems)
	holdWrong(t, []wrongCase{
		{"doubled without end", []api.Term{doubled(2000, term("a"))}, api.ErrLarge},
		{"doubled without end, a long name", []api.Term{doubled(2000, long)}, api.ErrArg},
		{"doubled as deep as may be", []api.Term{doubled(99, term("a"))}, api.ErrLarge},
		{"a list within itself", ring, api.ErrLarge},
		{"a list within itself, and a long name", wrongRing[:1], api.ErrArg},
		{"one wide list at many places", wide, api.ErrLarge},
		{"a list, and a longer one of the same beginning", []api.Term{term("f", list[:2]...), term("f", list...)}, api.ErrArg},
		{"a list, and a shorter one of the same beginning", []api.Term{term("f", list...), term("f", list[:2]...)}, api.ErrArg},
		{"the sound beginning of a list", []api.Term{term("f", list[:2]...), term("f", list[:1]...)}, api.OK},
		{"the sound beginning of a list, the other way round", []api.Term{term("f", list[:1]...), term("f", list[:2]...)}, api.OK},
	})
}
