package lang

import (
	"strconv"
	"strings"

	"lockstep/api"
)

// parse the whole text. That it is too large is told behind all that it can't go on with: so it is read to its end in any case.
func parse(text string) (l []api.Stat, fault api.Fault) {
	defer func() {
		told := recover()
		if no, ok := told.(api.Fault); ok {
			l, fault = nil, no
		} else if told != nil {
			panic(told) // no fault of the text
		}
	}()
	r := newReader(text)
	l = r.statements()
	r.must("")
	if r.full() || tooLarge(l) {
		return nil, api.Fault{Code: api.ErrLarge}
	}
	return l, api.Fault{}
}

// full: are there too many statements and expressions already? Then what is read is no longer kept: a long text would take far more memory than itself.
func (r *reader) full() bool { return r.ops > api.MaxOps }

// statements up to the end of their list; what stands there then is for the caller to say.
func (r *reader) statements() []api.Stat {
	var l []api.Stat
	for r.token != "" && r.token != "}" {
		s := r.statement()
		if !r.full() {
			l = append(l, s)
		}
		if !r.took(";") {
			break
		}
	}
	return l
}

func (r *reader) statement() api.Stat {
	r.ops++
	switch {
	case r.took("if"):
		return r.choice()
	case r.took("repeat"):
		times := r.number(maxTimes)
		return api.Stat{Kind: api.Repeat, N: times, Blocks: [][]api.Stat{r.block()}}
	case r.took("par"):
		return r.besides()
	}
	return r.change()
}

// choice: an If, behind its word.
func (r *reader) choice() api.Stat {
	s := api.Stat{Kind: api.If, E: r.expression()}
	s.Blocks = append(s.Blocks, r.block())
	if r.took("else") {
		s.Blocks = append(s.Blocks, r.block())
	}
	return s
}

// besides: a Par, behind its word. Behind its last block that may be it can't go on with another one.
func (r *reader) besides() api.Stat {
	s := api.Stat{Kind: api.Par, Blocks: [][]api.Stat{r.block()}}
	for len(s.Blocks) < maxBlocks && r.took("and") {
		s.Blocks = append(s.Blocks, r.block())
	}
	return s
}

// change: an Assign or an Add.
func (r *reader) change() api.Stat {
	s := api.Stat{Kind: api.Assign, Name: r.name()}
	if r.took("+=") {
		s.Kind = api.Add
	} else {
		r.must("=")
	}
	s.E = r.expression()
	return s
}

func (r *reader) block() []api.Stat {
	r.open("{")
	l := r.statements()
	r.close("}")
	return l
}

func (r *reader) expression() api.Expr {
	e := r.product()
	for {
		switch {
		case r.took("+"):
			e = r.join(api.Sum, e, r.product())
		case r.took("-"):
			e = r.join(api.Less, e, r.product())
		default:
			return e
		}
	}
}

func (r *reader) product() api.Expr {
	e := r.factor()
	for r.took("*") {
		e = r.join(api.Times, e, r.factor())
	}
	return e
}

func (r *reader) factor() api.Expr {
	if r.token == "(" {
		r.open("(")
		e := r.expression()
		r.close(")")
		return e
	}
	r.ops++
	if span(r.token, isDigit) > 0 {
		return api.Expr{Kind: api.Number, N: r.number(maxNumber)}
	}
	return api.Expr{Kind: api.Name, Name: r.name()}
}

func (r *reader) join(kind int, first, second api.Expr) api.Expr {
	r.ops++
	if r.full() {
		return api.Expr{}
	}
	return api.Expr{Kind: kind, Kids: []api.Expr{first, second}}
}

// number that must be the token, up to the greatest one.
func (r *reader) number(most int64) int64 {
	n, err := strconv.ParseInt(r.token, 10, 64)
	if err != nil || n > most || len(r.token) > 1 && r.token[0] == '0' {
		r.stick()
	}
	r.next()
	return n
}

// name that must be the token. It is a copy: the text is not kept.
func (r *reader) name() string {
	if !isName(r.token) {
		r.stick()
	}
	name := strings.Clone(r.token)
	r.next()
	return name
}
