package play

import (
	"riposte/api"
)

// book reads the chapter's definitions sentence by sentence, and keeps nothing: whatever it tells of a word it finds by looking at all of it.
type book struct {
	a api.Arena
	w api.Word
}

// asks reports whether the move with a number is a question, escapes whether it is Esc.
func (b book) asks(at int) bool    { return b.w[at].Kind != api.MoveTell }
func (b book) escapes(at int) bool { return !b.asks(at) && b.w[at].N == api.Esc }

// partner counts brackets, from a question on or from an answer back, until they are even.
func (b book) partner(at int) int {
	step := -1
	if b.asks(at) {
		step = 1
	}
	for n, deep := at, 0; n >= 0 && n < len(b.w); n += step {
		if b.asks(n) {
			deep++
		} else {
			deep--
		}
		if deep == 0 {
			return n
		}
	}
	return -1
}

// open returns the questions without an answer.
func (b book) open() []int {
	var l []int
	for n := range b.w {
		if b.asks(n) && b.partner(n) < 0 {
			l = append(l, n)
		}
	}
	return l
}

// forced reports whether the move with a number, perhaps the next one, comes behind Esc of a place i, j.
func (b book) forced(at int) bool { return at > 0 && b.escapes(at-1) && b.w[at-1].Arg > 0 }

// lost reports whether the other one has told Esc of some i, 0 without being forced.
func (b book) lost() bool {
	for n, m := range b.w {
		if b.escapes(n) && m.Id > 0 && m.Arg == 0 && !b.forced(n) {
			return true
		}
	}
	return false
}

// can reports whether a move of the arena can come.
func (b book) can(m api.Move) bool {
	question := m.Kind != api.MoveTell
	open := b.open()
	switch {
	case len(b.w) == 0:
		return question && m.Id == 0
	case len(open) == 0:
		return false
	}
	top := b.w[open[len(open)-1]]
	answer := !question && m.Id == top.Id && m.Arg == top.Arg && (top.Kind == api.MoveAsk || m.N < 1)
	escape := answer && m.N == api.Esc
	switch {
	case b.forced(len(b.w)):
		return escape && m.Id == b.w[len(b.w)-1].Id && m.Arg == 0
	case b.lost():
		return escape
	case top.Id == 0:
		return answer && !escape || question && m.Id > 0 && m.Arg == 0
	case top.Arg > 0:
		return answer || question && m.Id > 0 && m.Arg == 0
	}
	return answer && (!escape || b.a.Jumps) || question && m.Id == top.Id && m.Arg > 0
}

// next returns the moves of the arena that can come, in its order.
func (b book) next() []api.Move {
	var l []api.Move
	for _, m := range moves(b.a) {
		if b.can(m) {
			l = append(l, m)
		}
	}
	return l
}

// before returns the book of as many moves from the beginning.
func (b book) before(n int) book { return book{b.a, b.w[:n]} }

// first returns the number of the first move that cannot come, that of all moves if there is none.
func (b book) first() int {
	for n, m := range b.w {
		found := false
		for _, x := range b.before(n).next() {
			found = found || x == m
		}
		if !found {
			return n
		}
	}
	return len(b.w)
}

// justifier returns the justifier of a move.
func (b book) justifier(at int) int {
	switch m := b.w[at]; {
	case !b.asks(at):
		return b.partner(at)
	case m.Id == 0:
		return -1
	case m.Arg == 0:
		return 0
	}
	open := b.before(at).open()
	return open[len(open)-1]
}

// view reads the table of views.
func (b book) view() []int {
	t := len(b.w) - 1
	switch m := b.w[t]; {
	case b.asks(t) && m.Id == 0:
		return []int{t}
	case b.asks(t):
		q := b.justifier(t)
		return append(b.before(q).view(), q, t)
	case b.forced(t):
		return append(b.before(t-1).view(), t-1, t)
	}
	q := b.partner(t)
	return append(b.before(q).view(), q, t)
}

// sight reads what is said of the other one's view.
func (b book) sight() []int {
	t := len(b.w) - 1
	if b.asks(t) || b.w[t].Id == 0 {
		return []int{0, t}
	}
	q := b.partner(t)
	return append(b.before(q).sight(), q, t)
}

// ofOther reports whether the last move is one of the other one.
func (b book) ofOther() bool {
	t := len(b.w) - 1
	return t >= 0 && b.asks(t) != (b.w[t].Id > 0 && b.w[t].Arg == 0)
}

// stand returns where the word stands.
func (b book) stand() api.Stand {
	open := b.open()
	s := api.Stand{Turn: api.TurnProgram, Open: open, Forced: b.forced(len(b.w)), Lost: b.lost()}
	if len(open) == 0 {
		s.Turn = api.TurnOver
	} else if top := b.w[open[len(open)-1]]; top.Id > 0 && top.Arg == 0 {
		s.Turn = api.TurnOther
	}
	if len(b.w) == 0 {
		s.Turn = api.TurnOther
	}
	return s
}

// depth returns how many questions were open at most.
func (b book) depth() int {
	most := 0
	for n := range len(b.w) + 1 {
		most = max(most, len(b.before(n).open()))
	}
	return most
}

// close goes on with the answer of the smallest N that is not Esc, or with Esc.
func (b book) close() api.Word {
	if len(b.w) == 0 {
		b.w = api.Word{{Kind: api.MoveAsk}}
	}
	w := append(api.Word(nil), b.w...)
	for {
		var best []api.Move
		for _, m := range (book{b.a, w}).next() {
			if m.Kind == api.MoveTell && (len(best) == 0 || best[0].N == api.Esc || m.N != api.Esc && m.N < best[0].N) {
				best = []api.Move{m}
			}
		}
		if len(best) == 0 {
			return w
		}
		w = append(w, best...)
	}
}
