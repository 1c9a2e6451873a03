package arena

import (
	"slices"

	"riposte/api"
)

// book reads the chapter's definitions sentence by sentence: it makes no moves, but tells of any move what it is.
type book struct{ a api.Arena }

// base returns the base type of a place, and whether there is such a place.
func (b book) base(m api.Move) (api.Base, bool) {
	switch {
	case m.Id == 0 && m.Arg == 0:
		return b.a.Root, true
	case m.Id < 1 || m.Id > len(b.a.Ids) || m.Arg < 0 || m.Arg > len(b.a.Ids[m.Id-1].Params):
		return api.Base{}, false
	case m.Arg == 0:
		return b.a.Ids[m.Id-1].Result, true
	}
	return b.a.Ids[m.Id-1].Params[m.Arg-1], true
}

// asks reports whether a move is a question of a place.
func (b book) asks(m api.Move) bool {
	x, ok := b.base(m)
	if !ok {
		return false
	}
	return m.Kind == api.MoveAsk && m.N == 0 || m.Kind == api.MovePut && x.Cell && 0 <= m.N && m.N < x.N
}

// escapes reports whether a question of the place of a move can be answered by a jump.
func (b book) escapes(m api.Move) bool {
	switch {
	case m.Arg > 0:
		return true
	case m.Id > 0:
		return b.a.Jumps || len(b.a.Ids[m.Id-1].Params) > 0
	}
	return b.a.Jumps
}

// answers reports whether a move is an answer of a question.
func (b book) answers(m, question api.Move) bool {
	if !b.asks(question) || m.Kind != api.MoveTell || m.Id != question.Id || m.Arg != question.Arg {
		return false
	}
	x, _ := b.base(question)
	switch {
	case m.N == api.Esc:
		return b.escapes(m)
	case question.Kind == api.MovePut:
		return m.N == 0
	}
	return 0 <= m.N && m.N < x.N
}

// tells reports whether a move is an answer of any question of its place.
func (b book) tells(m api.Move) bool {
	for n := range api.MaxSize {
		if b.answers(m, api.Move{Id: m.Id, Arg: m.Arg, Kind: api.MovePut, N: n}) {
			return true
		}
	}
	return b.answers(m, api.Move{Id: m.Id, Arg: m.Arg, Kind: api.MoveAsk})
}

// has reports whether the arena has a move.
func (b book) has(m api.Move) bool { return b.asks(m) || b.tells(m) }

// other reports whether a move of the arena is the other one's.
func (b book) other(m api.Move) bool {
	switch {
	case m.Id == 0:
		return b.asks(m)
	case m.Arg == 0:
		return b.tells(m)
	}
	return b.asks(m)
}

// allows reports whether a question allows another move.
func (b book) allows(question, m api.Move) bool {
	if !b.asks(m) {
		return false
	}
	if question.Id > 0 && question.Arg == 0 {
		return m.Id == question.Id && m.Arg > 0
	}
	return m.Id > 0 && m.Arg == 0
}

// near yields moves around those of the arena, among them all that it has, in their order.
func (b book) near(yield func(api.Move) bool) {
	for id := range len(b.a.Ids) + 4 {
		for arg := range api.MaxParams + 3 {
			for kind := range uint8(6) {
				for n := range api.MaxSize + 5 {
					if !yield(api.Move{Id: id - 2, Arg: arg - 1, Kind: kind, N: n - 3}) {
						return
					}
				}
			}
		}
	}
}

// all returns the moves of the arena of which something is so.
func (b book) all(is func(api.Move) bool) []api.Move {
	var l []api.Move
	for m := range b.near {
		if is(m) {
			l = append(l, m)
		}
	}
	return slices.Clip(l)
}
