package auto

import (
	"testing"

	"riposte/api"
)

// limited is an operation on automata that are just at a limit, or just past it: the automaton of the book, how many sets, states and edges this comes to (0: it does not matter), and the operation.
type limited struct {
	name                string
	b                   book
	sets, states, edges int
	of                  func() (api.Auto, api.Errno)
}

// tries checks that an operation is as the book says: that the numbers are those of the book, and that there is an error just if one of them is past its limit.
func (x limited) tries(t *testing.T) {
	t.Helper()
	sets := len(x.b.sets().Next)
	states, many := x.b.least()
	if sets != x.sets && x.sets > 0 || states != x.states && x.states > 0 || many != x.edges && x.edges > 0 {
		t.Errorf("%s has %d sets, %d states, %d edges", x.name, sets, states, many)
	}
	want := api.OK
	if sets > api.MaxSets || states > api.MaxStates || many > api.MaxEdges {
		want = api.ErrLimit
	}
	y, e := x.of()
	if e != want || e != api.OK && !isZero(y) {
		t.Errorf("%s with %d sets, %d states, %d edges: %v", x.name, sets, states, many, e)
	}
	if e == api.OK && (len(y.Next) != states || edges(y) != many || !isCanonicalByBook(y) || !x.b.says(y)) {
		t.Errorf("%s with %d sets, %d states, %d edges: %d states, %d edges", x.name, sets, states, many, len(y.Next), edges(y))
	}
}

// ofTwo is an operation on two automata, ofOne one on one.
func ofTwo(name string, b func(x, y api.Auto) book, of func(x, y api.Auto) (api.Auto, api.Errno), x, y api.Auto, sets, states, edges int) limited {
	return limited{name, b(x, y), sets, states, edges, func() (api.Auto, api.Errno) { return of(x, y) }}
}

func ofOne(name string, b func(x api.Auto) book, of func(x api.Auto) (api.Auto, api.Errno), x api.Auto, sets, states, edges int) limited {
	return limited{name, b(x), sets, states, edges, func() (api.Auto, api.Errno) { return of(x) }}
}

func hideOne(x api.Auto) (api.Auto, api.Errno) { return Hide(x, []int{1}) }

func hideOneBook(x api.Auto) book { return hideBook(x, []int{1}) }

// Two loops beside each other, of 36 and 53 states, come to 1908 pairs, and more by what stands before the first one. From each pair both a mark and a sign lead to an end, by one of the loops or by the other one; so there are many sets, but few states.
const rounds, otherRounds = 36, 53

// The moves by which loops end.
var allMarks, allSigns = []api.Move{mark}, []api.Move{sign}

// P8.2, P8.4, P8.5: the limit of each operation, where 2000 sets can be reached, and where one more can.
func TestLimitOfSets(t *testing.T) {
	for more := range 2 {
		sets := api.MaxSets + more
		loops := func(before int) (x, y api.Auto) {
			return looped(t, before+more, rounds, allMarks, sign), looped(t, 0, otherRounds, allSigns, mark)
		}
		x, y := loops(89) // three sets at the ends
		ofTwo("Union", unionBook, Union, x, y, sets, 2, 3).tries(t)
		ofTwo("Union turned", unionBook, Union, y, x, sets, 2, 3).tries(t)

		x, y = looped(t, more, 16, allMarks), looped(t, 0, 125, allSigns) // no word of both
		ofTwo("Both", bothBook, Both, x, y, sets, 1, 0).tries(t)
		ofTwo("Both turned", bothBook, Both, y, x, sets, 1, 0).tries(t)

		x, y = looped(t, 1+more, 37, allMarks), looped(t, 0, 54, allSigns) // 1998 pairs, and the end
		ofTwo("Without", withoutBook, Without, x, y, sets, 39+more, 39+more).tries(t)

		m := newMaker() // the first state as well
		end := m.state(true)
		a, b := m.state(false), m.state(false)
		m.edge(0, step, a)
		m.edge(0, step, b)
		m.loop(a, 90+more, rounds, end, allMarks, sign)
		m.loop(b, 0, otherRounds, end, allSigns, mark)
		ofOne("Canon", bookOf, Canon, m.Auto, sets, 3, 4).tries(t)
	}
}

// forked returns an automaton that, behind a lead, is at a middle state, from which the loop a begins; the loop b begins at the first state, or, if hushed, behind a hushed move.
func forked(t *testing.T, final, hushed bool, loopA, loopB func(m *maker, first, end int)) api.Auto {
	t.Helper()
	m := newMaker()
	end, middle, a, b := m.state(true), m.state(final), m.state(false), m.state(false)
	m.edge(0, lead, middle)
	m.edge(middle, step, a)
	if hushed {
		m.edge(middle, hush, b)
	} else {
		m.edge(0, step, b)
	}
	loopA(m, a, end)
	loopB(m, b, end)
	return canon(t, m.Auto)
}

// covered returns the loops of which one covers what the other one leaves out, with so many states before the first one.
func covered(before int) (a, b func(m *maker, first, end int)) {
	a = func(m *maker, first, end int) { m.loop(first, before, rounds, end, allMarks, sign) }
	b = func(m *maker, first, end int) { m.loop(first, 0, otherRounds, end, allSigns, mark) }
	return a, b
}

// bare returns short loops that differ at each pair.
func bare(before int) (a, b func(m *maker, first, end int)) {
	a = func(m *maker, first, end int) { m.loop(first, before, 17, end, allMarks) }
	b = func(m *maker, first, end int) { m.loop(first, 0, 19, end, allSigns) }
	return a, b
}

// P8.4, P8.5: the limit of the operations by which two ways are gone at once, where 2000 sets can be reached, and where one more can.
func TestLimitOfSetsOnTwoWays(t *testing.T) {
	for more := range 2 {
		sets := api.MaxSets + more
		a, b := covered(89 + more) // the first one, the middle, and the end
		ofOne("Hide", hideOneBook, hideOne, forked(t, false, true, a, b), sets, 4, 6).tries(t)

		m := newMaker()
		end, middle, first := m.state(true), m.state(true), m.state(false)
		m.edge(0, lead, middle)
		m.edge(middle, step, first)
		m.loop(first, 34+more, rounds, end, allMarks, sign)
		behind := newMaker() // its end is its first state, so that all ends are alike
		behind.Final[0] = true
		behind.loop(0, 1, otherRounds, 0, allSigns, mark)
		ofTwo("Chain", chainBook, Chain, canon(t, m.Auto), canon(t, behind.Auto), sets, 57, 115).tries(t)

		a, b = covered(36 + more)
		ofOne("Star", starBook, Star, forked(t, true, false, a, b), sets, 56, 114).tries(t)
	}
}

// P8.2, P8.4, P8.5: results of 400 states, and of one more.
func TestLimitOfStates(t *testing.T) {
	for more := range 2 {
		states := api.MaxStates + more
		m := newMaker() // behind some leads the words whose seventh move from the end is a mark
		at := m.path(0, lead, 272+more)
		m.edge(at, step, at)
		m.edge(at, mark, at)
		next := m.state(false)
		m.edge(at, mark, next)
		for range 6 {
			at, next = next, m.state(false)
			m.edge(at, step, next)
			m.edge(at, mark, next)
		}
		m.Final[next] = true
		ofOne("Canon", bookOf, Canon, m.Auto, states, states, 0).tries(t)

		x := looped(t, more, 19, allMarks)
		ofTwo("Both", bothBook, Both, x, looped(t, more, 21, allMarks), states, states, 0).tries(t)
		ofTwo("Without", withoutBook, Without, x, looped(t, 0, 21, allMarks), 0, states, 0).tries(t)
		ofTwo("Chain", chainBook, Chain, line(150), line(251+more), 0, states, 0).tries(t)
		m = newMaker()
		m.Final[m.path(0, mark, 198+more)] = true
		ofTwo("Union", unionBook, Union, line(203), m.Auto, 0, states, 0).tries(t)

		a, b := bare(56 + more)
		ofOne("Star", starBook, Star, forked(t, true, false, a, b), 0, states, 0).tries(t)
		a, b = bare(74 + more)
		ofOne("Hide", hideOneBook, hideOne, forked(t, false, true, a, b), 0, states, 0).tries(t)
	}
}

// P8.2, P8.4, P8.5: results of 6000 edges, and of one more.
func TestLimitOfEdges(t *testing.T) {
	for more := range 2 {
		many := api.MaxEdges + more
		ofTwo("Union", unionBook, Union, fanned(0, 3000), fanned(3000, 3000+more), 0, 2, many).tries(t)
		ofTwo("Chain", chainBook, Chain, fanned(0, 3000), fanned(500, 3000+more), 0, 3, many).tries(t)

		// Behind a lead the first one has two rounds, and the second one three: together six, of 999 letters. More letters lead from the first state to the end.
		x, y := newMaker(), newMaker()
		for _, z := range []struct {
			*maker
			rounds int
		}{{x, 2}, {y, 3}} {
			at, end := z.state(true), z.state(true)
			z.edge(0, lead, at)
			z.fan(0, 2000, 2005+more, end)
			first := at
			for range z.rounds - 1 {
				next := z.state(false)
				z.fan(at, 0, 999, next)
				at = next
			}
			z.fan(at, 0, 999, first)
		}
		ofTwo("Both", bothBook, Both, canon(t, x.Auto), canon(t, y.Auto), 0, 8, many).tries(t)
		y.Next[0] = y.Next[0][:1]
		ofTwo("Without", withoutBook, Without, canon(t, x.Auto), canon(t, y.Auto), 0, 8, many).tries(t)

		m := newMaker() // the end has the letters of the first state, too
		end := m.state(true)
		m.fan(0, 0, 2999, end)
		m.fan(end, 2999, 3001+more, end)
		ofOne("Star", starBook, Star, canon(t, m.Auto), 0, 2, many).tries(t)

		m = newMaker() // two states have the letters of a third one, too
		end, third := m.state(true), m.state(false)
		m.fan(0, 0, 4+more, end)
		m.fan(third, 0, 1997, end)
		for n := range 2 {
			at := m.state(false)
			m.edge(0, letter(5000+n), at)
			m.edge(at, hush, third)
			m.edge(at, letter(6000+n), end)
		}
		m.edge(0, lead, third)
		ofOne("Hide", hideOneBook, hideOne, canon(t, m.Auto), 0, 5, many).tries(t)

		m = newMaker() // the letters of two states, alone and together
		end, a, b := m.state(true), m.state(false), m.state(false)
		m.edge(0, step, a)
		m.edge(0, step, b)
		m.edge(0, mark, a)
		m.edge(0, sign, b)
		m.fan(0, 0, 1+more, end)
		m.fan(a, 0, 1000, end)
		m.fan(b, 1000, 2998, end)
		ofOne("Canon", bookOf, Canon, m.Auto, 0, 5, many).tries(t)
	}
}
