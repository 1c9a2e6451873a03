package play

import (
	"strings"

	"riposte/api"
	"riposte/arena"
)

// blank stands between the moves of a text.
const blank = " "

// Text returns the text of a word.
func Text(w api.Word) (string, api.Errno) {
	if len(w) > api.MaxWord {
		return "", api.ErrLimit
	}
	var parts []string
	for _, m := range w {
		s, e := arena.Text(m)
		if e != api.OK {
			return "", api.ErrForm
		}
		parts = append(parts, s)
	}
	return strings.Join(parts, blank), api.OK
}

// Parse returns the word with a text.
func Parse(s string) (api.Word, api.Errno) {
	if strings.Count(s, blank) >= api.MaxWord {
		return nil, api.ErrLimit
	}
	if s == "" { // the empty word has no parts, not one that is empty
		return nil, api.OK
	}
	var w api.Word
	for part := range strings.SplitSeq(s, blank) {
		m, e := arena.Parse(part)
		if e != api.OK {
			return nil, api.ErrForm
		}
		w = append(w, m)
	}
	return w, api.OK
}
