package parse

import (
	"slices"
	"strconv"

	"riposte/api"
	"riposte/lex"
)

// reader reads the tokens of a text from left to right.
type reader struct {
	tokens []api.Token
	next   int // the number of the next token
	end    int // the number of bytes of the text
	firsts map[string]func(*reader) *knot
}

// stuck is the place of a token with which a text does not go on.
type stuck int

// newReader returns a reader of a text; with an error, where it is.
func newReader(s string) (*reader, int, api.Errno) {
	tokens, at, e := lex.Tokens(s)
	if e != api.OK {
		return nil, at, e
	}
	return &reader{tokens: tokens, end: len(s), firsts: firsts()}, 0, api.OK
}

// program reads all items, and returns the tree of those that go on, and the faults of the others.
func (r *reader) program() (api.Tree, []api.Fault) {
	k := tie(api.ProgramNode, 0)
	var faults []api.Fault
	for r.next < len(r.tokens) {
		item, at := r.attempt(r.item)
		if item != nil {
			k.kids = append(k.kids, item)
			continue
		}
		faults = append(faults, api.Fault{At: at, E: api.ErrForm})
		r.skip()
	}
	return api.Tree{Nodes: k.appendTo(nil)}, faults
}

// attempt returns what is read. If the text does not go on it returns nil, and the place of the token with which it does not.
func (r *reader) attempt(read func() *knot) (k *knot, at int) {
	defer func() {
		switch place := recover().(type) {
		case nil: // all of it is read
		case stuck:
			at = int(place)
		}
	}()
	return read(), 0
}

// skip goes on to the next keyword of an item, or to the end. If this is the next token, an item that is stuck has begun before it.
func (r *reader) skip() {
	for !borders(r.ahead(0)) {
		r.next++
	}
}

// borders reports whether a token is the keyword of an item, or stands for the end.
func borders(t api.Token) bool {
	return slices.Contains([]string{"import", "def", "export", ""}, t.Text)
}

// ahead returns the token that is so many tokens behind the next one; one without a text at the end.
func (r *reader) ahead(n int) api.Token {
	if r.next+n < len(r.tokens) {
		return r.tokens[r.next+n]
	}
	return api.Token{At: r.end}
}

// sees reports whether the next token is one of some signs or keywords.
func (r *reader) sees(signs ...string) bool { return slices.Contains(signs, r.ahead(0).Text) }

// take takes the next token, if it is one that can come.
func (r *reader) take(can bool) api.Token {
	t := r.ahead(0)
	if !can {
		panic(stuck(t.At))
	}
	r.next++
	return t
}

// need takes one of some signs or keywords.
func (r *reader) need(signs ...string) api.Token { return r.take(r.sees(signs...)) }

// number takes a number.
func (r *reader) number() int {
	t := r.take(r.ahead(0).Kind == api.TokNumber)
	n, _ := strconv.Atoi(t.Text) // a token that is a number has no error
	return n
}

// named takes a name, and returns a knot that is told by it.
func (r *reader) named(kind uint8) *knot {
	t := r.take(r.ahead(0).Kind == api.TokName)
	k := tie(kind, t.At)
	k.Text = t.Text
	return k
}

// declared takes the sign or the keyword of a kind and a name, and returns a knot that is told by the first of them.
func (r *reader) declared(kind uint8) *knot {
	at := r.need(tokenOf[kind]).At
	k := r.named(kind)
	k.At = at
	return k
}

// operation takes the sign or the keyword of one of some kinds, if it comes next, and returns a knot of this kind.
func (r *reader) operation(kinds ...uint8) (*knot, bool) {
	for _, kind := range kinds {
		if r.sees(tokenOf[kind]) {
			return tie(kind, r.need(tokenOf[kind]).At), true
		}
	}
	return nil, false
}

// row reads one or more of the same, with commas between them.
func (r *reader) row(one func() *knot) []*knot {
	l := []*knot{one()}
	for r.sees(",") {
		r.need(",")
		l = append(l, one())
	}
	return l
}

// list reads a row in brackets.
func (r *reader) list(one func() *knot) []*knot {
	r.need("(")
	l := r.row(one)
	r.need(")")
	return l
}
