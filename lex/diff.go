package lex

import "riposte/api"

// Diff returns a splice that leads from a text to another one.
func Diff(a, b string) ([]api.Splice, api.Errno) {
	for _, s := range []string{a, b} {
		if _, e := textError(s); e != api.OK {
			return nil, e
		}
	}
	if a == b {
		return nil, api.OK
	}
	same := func(x, y byte) bool { return x == y }
	head, tail := common([]byte(a), []byte(b), same, same)
	return []api.Splice{{From: head, To: len(a) - tail, Text: b[head : len(b)-tail]}}, api.OK
}

// Kept returns how many tokens at the beginning, and at the end, stay when a text is spliced.
func Kept(s string, x api.Splice) (int, int, api.Errno) {
	after, e := Apply(s, []api.Splice{x})
	if e != api.OK {
		return 0, 0, e
	}
	a, _, e := Tokens(s)
	if e != api.OK {
		return 0, 0, e
	}
	b, _, e := Tokens(after)
	if e != api.OK {
		return 0, 0, e
	}
	longer := len(after) - len(s)
	same := func(x, y api.Token) bool { return x == y }
	moved := func(x, y api.Token) bool {
		x.At += longer
		return x == y
	}
	head, tail := common(a, b, same, moved)
	return head, tail, api.OK
}

// common returns how many elements two lists have in common at their beginnings, and of the others at their ends.
func common[T any](a, b []T, atHead, atTail func(x, y T) bool) (head, tail int) {
	most := min(len(a), len(b))
	for head < most && atHead(a[head], b[head]) {
		head++
	}
	for head+tail < most && atTail(a[len(a)-1-tail], b[len(b)-1-tail]) {
		tail++
	}
	return head, tail
}
