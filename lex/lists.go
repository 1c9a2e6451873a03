package lex

import (
	"strings"

	"riposte/api"
)

// Tight returns the shortest text with some tokens.
func Tight(l []api.Token) (string, api.Errno) {
	if e := listError(l); e != api.OK {
		return "", e
	}
	var b strings.Builder
	for i, t := range l {
		if i > 0 && clash(l[i-1], t) {
			b.WriteByte(' ')
		}
		b.WriteString(t.Text)
	}
	if b.Len() > api.MaxText {
		return "", api.ErrLimit
	}
	return b.String(), api.OK
}

// Pairs returns which brackets belong together; with an error, the number of a token.
func Pairs(l []api.Token) ([]int, int, api.Errno) {
	if e := listError(l); e != api.OK {
		return nil, 0, e
	}
	pairs := make([]int, len(l))
	var open []int
	for i, t := range l {
		pairs[i] = -1
		switch t.Text {
		case "(", "{":
			open = append(open, i)
		case ")", "}":
			last := len(open) - 1
			if last < 0 || l[open[last]].Text != opener(t.Text) {
				return nil, i, api.ErrForm
			}
			pairs[i], pairs[open[last]] = open[last], i
			open = open[:last]
		}
	}
	if len(open) > 0 {
		return nil, open[0], api.ErrForm
	}
	return pairs, 0, api.OK
}

// opener returns the bracket that a closing one closes.
func opener(closing string) string {
	if closing == ")" {
		return "("
	}
	return "{"
}

// clash reports whether two right tokens are read otherwise if nothing stands between them.
func clash(a, b api.Token) bool {
	if a.Kind == api.TokSign || b.Kind == api.TokSign {
		return a.Text == ":" && b.Text == "="
	}
	return true
}

// listError returns the error of a list of tokens.
func listError(l []api.Token) api.Errno {
	if len(l) > api.MaxTokens {
		return api.ErrLimit
	}
	if !right(l...) {
		return api.ErrArg
	}
	return api.OK
}

// right reports whether all of some tokens are right.
func right(l ...api.Token) bool {
	words := keywords()
	for _, t := range l {
		if t.Text == "" {
			return false
		}
		t.At = 0
		if read, e := piece(t.Text, 0, words); e != api.OK || read != t {
			return false
		}
	}
	return true
}
