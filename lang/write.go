package lang

import (
	"strconv"

	"lockstep/api"
)

// putAll of the statements behind the text.
func putAll(text []byte, l []api.Stat) []byte {
	for i := range l {
		if i > 0 {
			text = append(text, "; "...)
		}
		text = put(text, &l[i])
	}
	return text
}

func put(text []byte, s *api.Stat) []byte {
	switch s.Kind {
	case api.If:
		text = append(text, "if "...)
		text = putExpr(text, &s.E)
		return putBlocks(text, " ", s.Blocks, " else ")
	case api.Repeat:
		text = append(text, "repeat "...)
		text = strconv.AppendInt(text, s.N, 10)
		return putBlocks(text, " ", s.Blocks, "")
	case api.Par:
		return putBlocks(text, "par ", s.Blocks, " and ")
	}
	text = append(text, s.Name...)
	if s.Kind == api.Add {
		text = append(text, " += "...)
	} else {
		text = append(text, " = "...)
	}
	return putExpr(text, &s.E)
}

// putBlocks with what stands ahead of the first one, and of each other.
func putBlocks(text []byte, ahead string, blocks [][]api.Stat, between string) []byte {
	for _, block := range blocks {
		text = append(text, ahead...)
		text = append(text, "{ "...)
		if len(block) > 0 {
			text = putAll(text, block)
			text = append(text, ' ')
		}
		text = append(text, '}')
		ahead = between
	}
	return text
}

func putExpr(text []byte, e *api.Expr) []byte {
	switch e.Kind {
	case api.Number:
		return strconv.AppendInt(text, e.N, 10)
	case api.Name:
		return append(text, e.Name...)
	}
	text = putPart(text, &e.Kids[0], binding(e.Kind))
	text = append(text, ' ', sign(e.Kind), ' ')
	return putPart(text, &e.Kids[1], binding(e.Kind)+1)
}

// putPart of an expression, with brackets about it if it binds less than it must. The second one must bind more than its whole: else, as all is read from the left, the whole would be read as its first one.
func putPart(text []byte, e *api.Expr, least int) []byte {
	if binding(e.Kind) >= least {
		return putExpr(text, e)
	}
	text = append(text, '(')
	text = putExpr(text, e)
	return append(text, ')')
}

// binding: how much an expression of a kind binds.
func binding(kind int) int {
	switch kind {
	case api.Sum, api.Less:
		return 1
	case api.Times:
		return 2
	}
	return 3
}

// sign of a kind of two parts.
func sign(kind int) byte {
	switch kind {
	case api.Sum:
		return '+'
	case api.Less:
		return '-'
	}
	return '*'
}
