package lang

import (
	"strings"

	"lockstep/api"
)

// maxNested: of texts with more than 2^16 parts nested in one another nothing is promised; those with far more are told as too large, ahead of taking more stack than there is.
const maxNested = 1 << 17

// reader goes through a text: it stands at a token, or behind the last one, where there is the empty text. ops: how many statements and expressions it has begun; nested: how many blocks and brackets are open.
type reader struct {
	text        string
	at          int
	token       string
	ops, nested int
}

// newReader stands at the first token.
func newReader(text string) *reader {
	r := &reader{text: text}
	r.next()
	return r
}

// next token.
func (r *reader) next() {
	r.at += len(r.token)
	r.at += span(r.text[r.at:], isBlank)
	r.token = firstToken(r.text[r.at:])
}

// took the token, if it is this one.
func (r *reader) took(token string) bool {
	if r.token != token {
		return false
	}
	r.next()
	return true
}

// must be this token.
func (r *reader) must(token string) {
	if !r.took(token) {
		r.stick()
	}
}

// stick: the text can't go on with the token. However deep the reader is, it is left all at once.
func (r *reader) stick() { panic(api.Fault{Code: api.ErrSyntax, At: r.at}) }

// open a block or a bracket.
func (r *reader) open(token string) {
	r.must(token)
	r.nested++
	if r.nested > maxNested {
		panic(api.Fault{Code: api.ErrLarge})
	}
}

// close what was opened last.
func (r *reader) close(token string) {
	r.must(token)
	r.nested--
}

// firstToken of a text with no blank ahead.
func firstToken(text string) string {
	if letters := span(text, isLetter); letters > 0 {
		return text[:letters]
	}
	if digits := span(text, isDigit); digits > 0 {
		return text[:digits]
	}
	if strings.HasPrefix(text, "+=") {
		return text[:2]
	}
	return text[:min(1, len(text))]
}

// span: how many bytes ahead of the first letter that is none of these. All that are asked for take one byte each.
func span(text string, is func(letter rune) bool) int {
	for at, letter := range text {
		if !is(letter) {
			return at
		}
	}
	return len(text)
}

func isLetter(letter rune) bool { return letter >= 'a' && letter <= 'z' }

func isDigit(letter rune) bool { return letter >= '0' && letter <= '9' }

func isBlank(letter rune) bool { return letter == ' ' || letter == '\n' }
