package core

import (
	"strconv"
	"strings"

	"riposte/api"
)

// written returns the text of a term that is right.
func written(t api.Term) string {
	var s strings.Builder
	write(&s, shapes(), t)
	return s.String()
}

// write writes the text of a term.
func write(s *strings.Builder, l []shape, t api.Term) {
	form, _ := shaped(l, t)
	s.WriteString(form.word)
	of := numbersOf(t)
	for i, field := range form.told {
		if i > 0 {
			s.WriteByte('/')
		}
		s.WriteString(strconv.Itoa(of[field]))
	}
	for i, kid := range t.Kids {
		if i == 0 {
			s.WriteByte('(')
		} else {
			s.WriteByte(',')
		}
		write(s, l, kid)
	}
	if len(t.Kids) > 0 {
		s.WriteByte(')')
	}
}

// reader reads the terms of a text.
type reader struct {
	left   string
	shapes map[string]shape
}

// read returns the term of a text. Of a text that is none of a term it makes something else, whose text is another one, or which is not right.
func read(s string) api.Term {
	r := &reader{left: s, shapes: map[string]shape{}}
	for _, x := range shapes() {
		r.shapes[x.word] = x
	}
	return r.term()
}

// term reads a term.
func (r *reader) term() api.Term {
	t := r.head()
	if r.skips("(") {
		t.Kids = append(t.Kids, r.term())
		for r.skips(",") {
			t.Kids = append(t.Kids, r.term())
		}
		r.skips(")")
	}
	return t
}

// head reads what stands before the kids of a term.
func (r *reader) head() api.Term {
	s := r.until("(,)")
	r.left = r.left[len(s):]
	word, rest := s, ""
	if digit := strings.IndexAny(s, "0123456789"); digit >= 0 {
		word, rest = s[:digit], s[digit:]
	}
	form, ok := r.shapes[word]
	if !ok {
		return api.Term{}
	}
	of := form.fixed
	for i, n := range strings.Split(rest, "/") {
		if i < len(form.told) {
			of[form.told[i]], _ = strconv.Atoi(n)
		}
	}
	return api.Term{Kind: form.kind, N: of[ofN], M: of[ofM], Id: of[ofId]}
}

// until returns what is left up to the first of some bytes.
func (r *reader) until(stops string) string {
	if i := strings.IndexAny(r.left, stops); i >= 0 {
		return r.left[:i]
	}
	return r.left
}

// skips goes past a sign, and reports whether it comes next.
func (r *reader) skips(sign string) bool {
	rest, ok := strings.CutPrefix(r.left, sign)
	r.left = rest
	return ok
}
