package lang_test

import (
	"math/big"
	"regexp"
	"slices"
	"strconv"
)

// rule of a grammar: what it makes, and of what.
type rule struct {
	made string
	of   []string
}

// grammar of the document's texts. A list of statements may have none, and one `;` behind the last; a Par has up to eight blocks.
func grammar() []rule {
	rules := []rule{
		{"LIST", nil}, {"LIST", []string{"STATS"}}, {"LIST", []string{"STATS", ";"}},
		{"STATS", []string{"STAT"}}, {"STATS", []string{"STATS", ";", "STAT"}},
		{"STAT", []string{"name", "=", "E"}}, {"STAT", []string{"name", "+=", "E"}},
		{"STAT", []string{"if", "E", "BLOCK"}}, {"STAT", []string{"if", "E", "BLOCK", "else", "BLOCK"}},
		{"STAT", []string{"repeat", "times", "BLOCK"}},
		{"BLOCK", []string{"{", "LIST", "}"}},
		{"E", []string{"T"}}, {"E", []string{"E", "+", "T"}}, {"E", []string{"E", "-", "T"}},
		{"T", []string{"F"}}, {"T", []string{"T", "*", "F"}},
		{"F", []string{"number"}}, {"F", []string{"name"}}, {"F", []string{"(", "E", ")"}},
	}
	blocks := []string{"par", "BLOCK"}
	for range maxBlocks {
		rules = append(rules, rule{"STAT", slices.Clone(blocks)})
		blocks = append(blocks, "and", "BLOCK")
	}
	return rules
}

// token of a text: where it begins, and what it may be taken for.
type token struct {
	at int
	is []string
}

var tokenShape = regexp.MustCompile(`[ \n]+|[a-z]+|[0-9]+|\+=|(?s:.)`)

func tokensOf(text string) []token {
	var l []token
	for _, found := range tokenShape.FindAllStringIndex(text, -1) {
		piece := text[found[0]:found[1]]
		switch c := piece[0]; {
		case c == ' ' || c == '\n':
			continue
		case c >= 'a' && c <= 'z':
			l = append(l, token{found[0], []string{wordOf(piece)}})
		case c >= '0' && c <= '9':
			l = append(l, token{found[0], numberOf(piece)})
		default:
			l = append(l, token{found[0], []string{piece}})
		}
	}
	return l
}

func wordOf(piece string) string {
	if slices.Contains([]string{"if", "else", "repeat", "par", "and"}, piece) {
		return piece
	}
	if len(piece) > 8 {
		return "too long"
	}
	return "name"
}

func numberOf(piece string) []string {
	n, _ := new(big.Int).SetString(piece, 10)
	switch {
	case n.String() != piece || n.Cmp(big.NewInt(maxNumber)) > 0:
		return nil
	case n.Cmp(big.NewInt(maxTimes)) > 0:
		return []string{"number"}
	}
	return []string{"number", "times"}
}

// state of one who looks for all ways at a time (EARLEY): so far of a rule has been found, from there on.
type state struct{ rule, done, from int }

// looker goes through tokens; sets: of each number of tokens all states that there may be behind them.
type looker struct {
	rules []rule
	sets  [][]state
}

func newLooker() *looker {
	k := &looker{rules: grammar()}
	var first []state
	for i, r := range k.rules {
		if r.made == "LIST" {
			first = append(first, state{rule: i})
		}
	}
	k.sets = [][]state{nil}
	k.fill(first)
	return k
}

// fill the last set with these and all that comes of them.
func (k *looker) fill(todo []state) {
	now := len(k.sets) - 1
	put := func(s state) {
		if !slices.Contains(k.sets[now], s) {
			k.sets[now] = append(k.sets[now], s)
		}
	}
	for _, s := range todo {
		put(s)
	}
	for before := -1; before != len(k.sets[now]); {
		before = len(k.sets[now])
		for i := 0; i < len(k.sets[now]); i++ {
			k.follow(k.sets[now][i], now, put)
		}
	}
}

// follow: what is made by the state, if it is done; else what it may go on with.
func (k *looker) follow(s state, now int, put func(state)) {
	if next := k.next(s); next != "" {
		for i, r := range k.rules {
			if r.made == next {
				put(state{rule: i, from: now})
			}
		}
		return
	}
	for _, waiting := range slices.Clone(k.sets[s.from]) {
		if k.next(waiting) == k.rules[s.rule].made {
			waiting.done++
			put(waiting)
		}
	}
}

func (k *looker) next(s state) string {
	if of := k.rules[s.rule].of; s.done < len(of) {
		return of[s.done]
	}
	return ""
}

// take a token; false, if the text can't go on with it.
func (k *looker) take(t token) bool {
	var l []state
	for _, s := range k.sets[len(k.sets)-1] {
		if slices.Contains(t.is, k.next(s)) {
			s.done++
			l = append(l, s)
		}
	}
	if len(l) == 0 {
		return false
	}
	k.sets = append(k.sets, nil)
	k.fill(l)
	return true
}

// back to ahead of the last token.
func (k *looker) back() { k.sets = k.sets[:len(k.sets)-1] }

// over: may the text end here?
func (k *looker) over() bool {
	return slices.ContainsFunc(k.sets[len(k.sets)-1], func(s state) bool {
		return s.from == 0 && k.rules[s.rule].made == "LIST" && k.next(s) == ""
	})
}

// stuckAt: where the text can't go on by the grammar; -1, if it can.
func stuckAt(text string) int {
	k := newLooker()
	for _, t := range tokensOf(text) {
		if !k.take(t) {
			return t.at
		}
	}
	if !k.over() {
		return len(text)
	}
	return -1
}

// spelt: a text of the program with what need not be there thrown in: blanks, bytes 10, brackets, and `;` behind the last of a list.
type spelt struct {
	*dice
	text []byte
}

// put a token: two words need something between, all else does not.
func (s *spelt) put(token string) {
	letter := func(c byte) bool { return c >= 'a' && c <= 'z' }
	digit := func(c byte) bool { return c >= '0' && c <= '9' }
	last := byte(' ')
	if len(s.text) > 0 {
		last = s.text[len(s.text)-1]
	}
	if letter(last) && letter(token[0]) || digit(last) && digit(token[0]) {
		s.text = append(s.text, " \n"[s.below(2)])
	}
	for s.below(3) == 0 {
		s.text = append(s.text, " \n"[s.below(2)])
	}
	s.text = append(s.text, token...)
}

func (s *spelt) number(n int64) { s.put(strconv.FormatInt(n, 10)) }
