// Package lex is layer 1, texts (chapter 1): what a program's text consists of, where everything stands in it, and how it changes.
package lex

import "riposte/api"

// Tokens returns the tokens of a text; with an error, where it is.
func Tokens(s string) ([]api.Token, int, api.Errno) {
	if at, e := textError(s); e != api.OK {
		return nil, at, e
	}
	var l []api.Token
	for t, e := range pieces(s) {
		if t.Kind == api.TokNote {
			continue
		}
		if e == api.OK && len(l) == api.MaxTokens {
			e = api.ErrLimit
		}
		if e != api.OK {
			return nil, t.At, e
		}
		l = append(l, t)
	}
	return l, 0, api.OK
}

// Notes returns the comments of a text.
func Notes(s string) ([]api.Token, api.Errno) {
	if _, e := textError(s); e != api.OK {
		return nil, e
	}
	var l []api.Token
	for t := range pieces(s) {
		if t.Kind == api.TokNote {
			l = append(l, t)
		}
	}
	return l, api.OK
}
