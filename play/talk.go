package play

import (
	"slices"

	"riposte/api"
	"riposte/arena"
)

// stack is the open questions of a word by their numbers, the top last, and how many there were at most.
type stack struct {
	open []int
	most int
}

// push puts a question on the stack.
func (s *stack) push(n int) {
	s.open = append(s.open, n)
	s.most = max(s.most, len(s.open))
}

// pop takes the top off the stack.
func (s *stack) pop() { s.open = s.open[:len(s.open)-1] }

// last returns the number of the top.
func (s *stack) last() int { return s.open[len(s.open)-1] }

// talk is a legal word in an arena.
type talk struct {
	api.Arena
	stack
	word       api.Word
	justifiers []int
	lost       bool
}

// follow returns the longest beginning of a word that is legal, and the error of the word. There is no talk with an error but ErrOdd.
func follow(a api.Arena, w api.Word) (*talk, api.Errno) {
	if e := arena.Check(a); e != api.OK {
		return nil, e
	}
	if len(w) > api.MaxWord {
		return nil, api.ErrLimit
	}
	t := &talk{Arena: a}
	for _, m := range w {
		if !slices.Contains(t.comes(), m) {
			return t, api.ErrOdd
		}
		t.add(m)
	}
	return t, api.OK
}

// isQuestion reports whether a move asks.
func isQuestion(m api.Move) bool { return m.Kind != api.MoveTell }

// isEscape reports whether a move is the answer by a jump.
func isEscape(m api.Move) bool { return m.Kind == api.MoveTell && m.N == api.Esc }

// isIdentifier reports whether a move is of an identifier itself: there the program asks and the other one answers.
func isIdentifier(m api.Move) bool { return m.Id > 0 && m.Arg == 0 }

// isParameter reports whether a move is of a parameter.
func isParameter(m api.Move) bool { return m.Arg > 0 }

// top returns the last open question.
func (t *talk) top() api.Move { return t.word[t.last()] }

// isOver reports whether the word is complete.
func (t *talk) isOver() bool { return len(t.word) > 0 && len(t.open) == 0 }

// isForced reports whether the move with a number, perhaps the next one, is forced: before it the program has jumped out of a parameter.
func (t *talk) isForced(at int) bool {
	return at > 0 && isEscape(t.word[at-1]) && isParameter(t.word[at-1])
}

// mustEscape reports whether the top can be answered by a jump alone.
func (t *talk) mustEscape() bool { return t.lost || t.isForced(len(t.word)) }

// mayEscape reports whether who has the turn can jump of its own will.
func (t *talk) mayEscape() bool {
	return isParameter(t.top()) || isIdentifier(t.top()) && t.Jumps
}

// comes returns the moves that can come, in any order.
func (t *talk) comes() []api.Move {
	switch {
	case len(t.word) == 0:
		return openings(t.Arena)
	case t.isOver():
		return nil
	}
	answers, _ := arena.Answers(t.Arena, t.top()) // a legal word has no errors of the arena
	questions, _ := arena.Under(t.Arena, t.top())
	return slices.DeleteFunc(slices.Concat(answers, questions), t.isBarred)
}

// openings returns the questions that begin a word.
func openings(a api.Arena) []api.Move {
	l, _ := arena.Moves(a)
	return slices.DeleteFunc(l, func(m api.Move) bool { return m.Id > 0 || !isQuestion(m) })
}

// isBarred reports whether a jump forbids a move that the top allows, or the move is a jump that is forbidden.
func (t *talk) isBarred(m api.Move) bool {
	if t.mustEscape() {
		return !isEscape(m)
	}
	return isEscape(m) && !t.mayEscape()
}

// add puts a move that can come behind the word.
func (t *talk) add(m api.Move) {
	at := len(t.word)
	if isEscape(m) && isIdentifier(m) && !t.isForced(at) {
		t.lost = true
	}
	justifier := t.justifier(m)
	if isQuestion(m) {
		t.push(at)
	} else {
		t.pop()
	}
	t.justifiers = append(t.justifiers, justifier)
	t.word = append(t.word, m)
}

// justifier returns the justifier of a move that can come.
func (t *talk) justifier(m api.Move) int {
	switch {
	case len(t.word) == 0:
		return -1
	case isQuestion(m) && isIdentifier(m):
		return 0
	}
	return t.last()
}

// turn returns whose turn it is.
func (t *talk) turn() uint8 {
	switch {
	case t.isOver():
		return api.TurnOver
	case len(t.word) == 0 || isIdentifier(t.top()):
		return api.TurnOther
	}
	return api.TurnProgram
}

// stand returns where the word stands.
func (t *talk) stand() api.Stand {
	return api.Stand{Turn: t.turn(), Open: t.open, Forced: t.isForced(len(t.word)), Lost: t.lost}
}

// next returns the moves that can come, ascending.
func (t *talk) next() []api.Move {
	l := t.comes()
	slices.SortFunc(l, func(a, b api.Move) int {
		switch {
		case arena.Less(a, b):
			return -1
		case arena.Less(b, a):
			return 1
		}
		return 0
	})
	return l
}

// partners returns the partner of each move. That of an answer is its justifier.
func (t *talk) partners() []int {
	l := slices.Repeat([]int{-1}, len(t.word))
	for at, m := range t.word {
		if !isQuestion(m) {
			l[at] = t.justifiers[at]
			l[l[at]] = at
		}
	}
	return l
}

// back yields the moves that a side sees behind a move of the other side, the last one first.
func (t *talk) back(yield func(int) bool) {
	at := len(t.word) - 1
	for at >= 0 && yield(at) {
		from := t.origin(at)
		if from < 0 || !yield(from) {
			return
		}
		at = from - 1
	}
}

// origin returns the move to which a side goes back from one that it sees; what was said between them is hidden. It is the justifier, but a jump out of a parameter hides nothing.
func (t *talk) origin(at int) int {
	if t.isForced(at) {
		return at - 1
	}
	return t.justifiers[at]
}

// closed returns the close of the word.
func (t *talk) closed() api.Word {
	for !t.isOver() {
		t.add(t.closing())
	}
	return t.word
}

// closing returns the move by which the close goes on. Each question that need not be answered by a jump can be answered by 0.
func (t *talk) closing() api.Move {
	if len(t.word) == 0 {
		return api.Move{Kind: api.MoveAsk}
	}
	m := api.Move{Id: t.top().Id, Arg: t.top().Arg, Kind: api.MoveTell}
	if t.mustEscape() {
		m.N = api.Esc
	}
	return m
}
