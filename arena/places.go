package arena

import (
	"iter"

	"riposte/api"
)

// right is an arena that is right.
type right struct{ api.Arena }

// place is a place of an arena, and whether its questions can be answered by a jump.
type place struct {
	api.Base
	id, arg int
	jumps   bool
}

// places yields all places, ascending.
func (r right) places(yield func(place) bool) {
	if !yield(place{Base: r.Root, jumps: r.Jumps}) {
		return
	}
	for i, t := range r.Ids {
		if !yield(place{t.Result, i + 1, 0, r.Jumps || len(t.Params) > 0}) {
			return
		}
		for j, b := range t.Params {
			if !yield(place{b, i + 1, j + 1, true}) {
				return
			}
		}
	}
}

// where yields the places of which something is so.
func (r right) where(so func(place) bool) iter.Seq[place] {
	return func(yield func(place) bool) {
		for p := range r.places {
			if so(p) && !yield(p) {
				return
			}
		}
	}
}

// at returns the place with two numbers, and whether there is one.
func (r right) at(id, arg int) (place, bool) {
	for p := range r.places {
		if p.id == id && p.arg == arg {
			return p, true
		}
	}
	return place{}, false
}

// isIdentifier reports whether a place is that of an identifier itself: there the program asks, at all others the other one does.
func (p place) isIdentifier() bool { return p.id > 0 && p.arg == 0 }

// move returns a move of a place.
func (p place) move(kind uint8, n int) api.Move {
	return api.Move{Id: p.id, Arg: p.arg, Kind: kind, N: n}
}

// questions yields the questions of a place, ascending.
func (p place) questions(yield func(api.Move) bool) {
	if !yield(p.move(api.MoveAsk, 0)) || !p.Cell {
		return
	}
	for n := range p.N {
		if !yield(p.move(api.MovePut, n)) {
			return
		}
	}
}

// tells yields the answers to a question that can be told some values, ascending.
func (p place) tells(values int) iter.Seq[api.Move] {
	return func(yield func(api.Move) bool) {
		if p.jumps && !yield(p.move(api.MoveTell, api.Esc)) {
			return
		}
		for n := range values {
			if !yield(p.move(api.MoveTell, n)) {
				return
			}
		}
	}
}

// answers yields the answers of a MoveAsk, ascending. Those of a MovePut are among them.
func (p place) answers(yield func(api.Move) bool) { p.tells(p.N)(yield) }

// moves yields all moves of a place, ascending.
func (p place) moves(yield func(api.Move) bool) {
	for m := range p.questions {
		if !yield(m) {
			return
		}
	}
	p.answers(yield)
}

// has reports whether a place has a move.
func (p place) has(m api.Move) bool {
	for x := range p.moves {
		if x == m {
			return true
		}
	}
	return false
}

// isQuestion reports whether a move asks.
func isQuestion(m api.Move) bool { return m.Kind != api.MoveTell }

// find returns an arena and the place of one of its moves, or the error.
func find(a api.Arena, m api.Move) (right, place, api.Errno) {
	r, e := rightOf(a)
	if e != api.OK {
		return right{}, place{}, e
	}
	p, ok := r.at(m.Id, m.Arg)
	if !ok || !p.has(m) {
		return right{}, place{}, api.ErrNone
	}
	return r, p, api.OK
}

// findQuestion returns an arena and the place of one of its questions, or the error.
func findQuestion(a api.Arena, m api.Move) (right, place, api.Errno) {
	r, p, e := find(a, m)
	if e == api.OK && !isQuestion(m) {
		return right{}, place{}, api.ErrArg
	}
	return r, p, e
}
