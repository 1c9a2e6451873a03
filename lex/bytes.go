package lex

import (
	"slices"
	"strings"

	"riposte/api"
)

// class is what a byte is in a text.
type class uint8

// Classes of bytes.
const (
	foreign class = iota // none of a text
	blank                // stands between tokens
	small                // a small letter
	capital              // a capital letter
	digit                // a digit
	sign                 // a sign, or the first byte of one
	tilde                // the first byte of a comment
	idle                 // one of a text, with which nothing begins
)

// signs are the bytes that are a sign, each of them alone.
const signs = "=<+-*!(){},;:."

// classOf returns the class of a byte.
func classOf(b byte) class {
	switch {
	case b == ' ' || b == '\n':
		return blank
	case 'a' <= b && b <= 'z':
		return small
	case 'A' <= b && b <= 'Z':
		return capital
	case '0' <= b && b <= '9':
		return digit
	case b == '~':
		return tilde
	case strings.IndexByte(signs, b) >= 0:
		return sign
	case ' ' < b && b < '~':
		return idle
	}
	return foreign
}

// is reports whether a byte is of one of some classes.
func is(b byte, l ...class) bool { return slices.Contains(l, classOf(b)) }

// run returns the bytes of some classes that stand together from a place on.
func run(s string, at int, l ...class) string {
	end := at
	for end < len(s) && is(s[end], l...) {
		end++
	}
	return s[at:end]
}

// foreignAt returns the place of the first byte that is none of a text, and whether there is one.
func foreignAt(s string) (int, bool) {
	for at := range len(s) {
		if is(s[at], foreign) {
			return at, true
		}
	}
	return 0, false
}

// textError returns the error of a text, and where it is.
func textError(s string) (int, api.Errno) {
	if len(s) > api.MaxText {
		return 0, api.ErrLimit
	}
	if at, ok := foreignAt(s); ok {
		return at, api.ErrArg
	}
	return 0, api.OK
}
