package lex

import (
	"strings"

	"riposte/api"
)

// Rename returns a text in which a name is another one.
func Rename(s, old, name string) (string, api.Errno) {
	l, _, e := Tokens(s)
	if e != api.OK {
		return "", e
	}
	before := api.Token{Kind: api.TokName, Text: old}
	after := api.Token{Kind: api.TokName, Text: name}
	if !right(before, after) {
		return "", api.ErrArg
	}
	found := places(l, before)
	if len(found) == 0 {
		return "", api.ErrNone
	}
	if len(places(l, after)) > 0 {
		return "", api.ErrTwice
	}
	if len(s)+len(found)*(len(name)-len(old)) > api.MaxText {
		return "", api.ErrLimit
	}
	var b strings.Builder
	done := 0
	for _, at := range found {
		b.WriteString(s[done:at])
		b.WriteString(name)
		done = at + len(old)
	}
	b.WriteString(s[done:])
	return b.String(), api.OK
}

// places returns where the tokens of a list begin that are a token, wherever that one begins.
func places(l []api.Token, t api.Token) []int {
	var found []int
	for _, x := range l {
		t.At = x.At
		if x == t {
			found = append(found, x.At)
		}
	}
	return found
}
