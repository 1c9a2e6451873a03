package lex

import (
	"strings"

	"riposte/api"
)

// change is a splice that knows what it does to a text.
type change struct {
	api.Splice
	at  int    // where its Text begins in the text after
	out string // what it takes out
}

// end returns where the Text of a change ends in the text after.
func (c change) end() int { return c.at + len(c.Text) }

// back returns the splice that undoes a change.
func (c change) back() api.Splice { return api.Splice{From: c.at, To: c.end(), Text: c.out} }

// Apply returns the text after splices.
func Apply(s string, l []api.Splice) (string, api.Errno) {
	changes, e := changesOf(s, l)
	if e != api.OK {
		return "", e
	}
	var b strings.Builder
	done := 0
	for _, c := range changes {
		b.WriteString(s[done:c.From])
		b.WriteString(c.Text)
		done = c.To
	}
	b.WriteString(s[done:])
	return b.String(), api.OK
}

// Moved returns where a byte stands after splices.
func Moved(s string, l []api.Splice, at int) (int, api.Errno) {
	changes, e := changesOf(s, l)
	if e != api.OK {
		return 0, e
	}
	if at < 0 || at > len(s) {
		return 0, api.ErrRange
	}
	moved := at
	for _, c := range changes {
		if c.From <= at && at < c.To {
			return 0, api.ErrNone
		}
		if c.To <= at {
			moved = c.end() + at - c.To
		}
	}
	return moved, api.OK
}

// Undo returns the splices that lead back.
func Undo(s string, l []api.Splice) ([]api.Splice, api.Errno) {
	changes, e := changesOf(s, l)
	if e != api.OK {
		return nil, e
	}
	var undo []api.Splice
	for _, c := range changes {
		undo = append(undo, c.back())
	}
	return undo, api.OK
}

// changesOf returns what splices do to a text, or the error of the text or of the splices.
func changesOf(s string, l []api.Splice) ([]change, api.Errno) {
	if _, e := textError(s); e != api.OK {
		return nil, e
	}
	if len(l) > api.MaxSplices {
		return nil, api.ErrLimit
	}
	if !rightFor(len(s), l) {
		return nil, api.ErrRange
	}
	var changes []change
	longer := 0
	for _, x := range l {
		if _, ok := foreignAt(x.Text); ok {
			return nil, api.ErrArg
		}
		c := change{Splice: x, at: x.From + longer, out: s[x.From:x.To]}
		changes = append(changes, c)
		longer += len(c.Text) - len(c.out)
	}
	if len(s)+longer > api.MaxText {
		return nil, api.ErrLimit
	}
	return changes, api.OK
}

// rightFor reports whether splices are right for a text of n bytes.
func rightFor(n int, l []api.Splice) bool {
	done := 0
	for _, x := range l {
		if x.From < done || x.To < x.From || x.To > n {
			return false
		}
		done = x.To
	}
	return true
}
