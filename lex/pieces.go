package lex

import (
	"iter"
	"strconv"
	"strings"

	"riposte/api"
)

// keywords returns the words that are no names.
func keywords() map[string]bool {
	return map[string]bool{
		"and": true, "as": true, "bool": true, "cell": true, "choose": true, "com": true, "def": true, "do": true,
		"else": true, "export": true, "false": true, "fn": true, "get": true, "hang": true, "if": true, "import": true,
		"in": true, "int": true, "jump": true, "label": true, "new": true, "not": true, "notice": true, "of": true,
		"or": true, "put": true, "skip": true, "then": true, "true": true, "while": true,
	}
}

// pieces yields the comments and the tokens of a text, each with its error. It goes on behind an error, since a text has its comments whatever stands between them.
func pieces(s string) iter.Seq2[api.Token, api.Errno] {
	return func(yield func(api.Token, api.Errno) bool) {
		words := keywords()
		for at := 0; at < len(s); {
			if is(s[at], blank) {
				at++
				continue
			}
			t, e := piece(s, at, words)
			if !yield(t, e) {
				return
			}
			at += len(t.Text)
			if t.Kind == api.TokNote {
				at++ // the ~, which its text leaves out
			}
		}
	}
}

// piece returns the comment or the token that begins at a place, and its error.
func piece(s string, at int, words map[string]bool) (api.Token, api.Errno) {
	t := api.Token{At: at}
	switch classOf(s[at]) {
	case tilde:
		t.Kind = api.TokNote
		t.Text, _, _ = strings.Cut(s[at+1:], "\n")
		return t, api.OK
	case small:
		t.Text = run(s, at, small, capital, digit)
		if words[t.Text] {
			t.Kind = api.TokWord
			return t, api.OK
		}
		t.Kind = api.TokName
		return t, nameError(t.Text)
	case digit:
		t.Kind, t.Text = api.TokNumber, run(s, at, small, capital, digit)
		return t, numberError(t.Text)
	case sign:
		t.Kind, t.Text = api.TokSign, signAt(s, at)
		return t, api.OK
	}
	t.Text = s[at : at+1]
	return t, api.ErrForm
}

// nameError returns the error of a letter and all letters and digits behind it, if they are no keyword.
func nameError(s string) api.Errno {
	if len(s) > api.MaxName {
		return api.ErrForm
	}
	return api.OK
}

// numberError returns the error of a digit and all letters and digits behind it.
func numberError(s string) api.Errno {
	if run(s, 0, digit) != s || len(s) > 1 && s[0] == '0' {
		return api.ErrForm
	}
	if n, err := strconv.Atoi(s); err != nil || n > api.MaxNumber {
		return api.ErrRange
	}
	return api.OK
}

// signAt returns the sign that begins at a place.
func signAt(s string, at int) string {
	if rest := s[at:]; strings.HasPrefix(rest, ":=") || strings.HasPrefix(rest, "->") {
		return rest[:2]
	}
	return s[at : at+1]
}
