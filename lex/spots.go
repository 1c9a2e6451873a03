package lex

import (
	"iter"

	"riposte/api"
)

// Spot returns the line and the column of a place.
func Spot(s string, at int) (api.Spot, api.Errno) {
	if _, e := textError(s); e != api.OK {
		return api.Spot{}, e
	}
	for place, p := range spots(s) {
		if place == at {
			return p, api.OK
		}
	}
	return api.Spot{}, api.ErrRange
}

// At returns the place of a line and a column.
func At(s string, p api.Spot) (int, api.Errno) {
	if _, e := textError(s); e != api.OK {
		return 0, e
	}
	for place, q := range spots(s) {
		if q == p {
			return place, api.OK
		}
	}
	return 0, api.ErrNone
}

// spots yields all places of a text, the one behind its last byte too, with their lines and columns.
func spots(s string) iter.Seq2[int, api.Spot] {
	return func(yield func(int, api.Spot) bool) {
		p := api.Spot{Line: 1, Column: 1}
		for at := range len(s) {
			if !yield(at, p) {
				return
			}
			p.Column++
			if s[at] == '\n' {
				p = api.Spot{Line: p.Line + 1, Column: 1}
			}
		}
		yield(len(s), p)
	}
}
