package auto

import (
	"math/rand/v2"
	"slices"
	"strings"
	"testing"

	"riposte/api"
	"riposte/play"
)

// told is the text of the automaton b of the chapter's examples, with commas between the lines.
const told = "0 0?>1, 1 0!0>2 1?>3, 2*, 3 1!0>4, 4 0!1>2"

// word returns the word with a text that is one.
func word(t *testing.T, s string) api.Word {
	t.Helper()
	w, e := play.Parse(s)
	if e != api.OK {
		t.Fatalf("Parse of %q: %v", s, e)
	}
	return w
}

// words returns the words of a text with commas between, none for a hyphen.
func words(t *testing.T, s string) []api.Word {
	t.Helper()
	if s == "-" {
		return nil
	}
	var l []api.Word
	for part := range strings.SplitSeq(s, ", ") {
		l = append(l, word(t, part))
	}
	return l
}

// only returns the automaton of the words of a text.
func only(t *testing.T, s string) api.Auto {
	t.Helper()
	x, e := Only(words(t, s))
	if e != api.OK {
		t.Fatalf("Only of %q: %v", s, e)
	}
	return x
}

// parsed returns the automaton of a text with commas for line feeds.
func parsed(t *testing.T, s string) api.Auto {
	t.Helper()
	x, e := Parse(strings.ReplaceAll(s, ", ", "\n") + "\n")
	if e != api.OK {
		t.Fatalf("Parse of %q: %v", s, e)
	}
	return x
}

// text returns the text of an automaton, with commas for line feeds.
func text(t *testing.T, x api.Auto) string {
	t.Helper()
	s, e := Text(x)
	if e != api.OK {
		t.Fatalf("Text of %v: %v", x, e)
	}
	return strings.ReplaceAll(strings.TrimSuffix(s, "\n"), "\n", ", ")
}

// canon returns the canonical automaton of one that has one.
func canon(t *testing.T, x api.Auto) api.Auto {
	t.Helper()
	y, e := Canon(x)
	if e != api.OK {
		t.Fatalf("Canon of %v: %v", x, e)
	}
	return y
}

// twin returns the same automaton in other memory.
func twin(x api.Auto) api.Auto {
	y := api.Auto{Final: slices.Clone(x.Final)}
	for _, edges := range x.Next {
		y.Next = append(y.Next, slices.Clone(edges))
	}
	return y
}

// alike reports whether two automata are the same; nil and empty lists are.
func alike(x, y api.Auto) bool {
	return slices.Equal(x.Final, y.Final) && slices.EqualFunc(x.Next, y.Next, func(a, b []api.Edge) bool { return slices.Equal(a, b) })
}

// isZero reports whether an automaton is the zero value.
func isZero(x api.Auto) bool { return len(x.Next) == 0 && len(x.Final) == 0 }

// edges returns how many edges an automaton has.
func edges(x api.Auto) int {
	many := 0
	for _, l := range x.Next {
		many += len(l)
	}
	return many
}

// letter returns one of many different moves, which ascend.
func letter(n int) api.Move { return api.Move{Id: 5, Kind: api.MoveTell, N: n} }

// Moves that are none of the letters, and ascend.
var step, hush, lead, mark, sign = api.Move{Kind: api.MoveAsk}, api.Move{Id: 1, Kind: api.MoveAsk}, api.Move{Id: 2, Kind: api.MoveAsk}, api.Move{Id: 3, Kind: api.MoveAsk}, api.Move{Id: 4, Kind: api.MoveAsk}

// maker makes raw automata. The state 0 is there from the beginning.
type maker struct{ api.Auto }

func newMaker() *maker { return &maker{lone(false)} }

// state makes a state, and returns it.
func (m *maker) state(final bool) int {
	m.Next = append(m.Next, nil)
	m.Final = append(m.Final, final)
	return len(m.Next) - 1
}

// edge makes an edge.
func (m *maker) edge(from int, by api.Move, to int) {
	m.Next[from] = append(m.Next[from], api.Edge{Move: by, To: to})
}

// fan makes edges by the letters from one number on up to another one.
func (m *maker) fan(from, first, behind, to int) {
	for n := first; n < behind; n++ {
		m.edge(from, letter(n), to)
	}
}

// path makes so many edges one behind the other, with new states, and returns the last one.
func (m *maker) path(at int, by api.Move, many int) int {
	for range many {
		next := m.state(false)
		m.edge(at, by, next)
		at = next
	}
	return at
}

// loop makes states from a first one on, one behind the other by steps; the last one leads back to that with so many before it. Each one leads to an end by each move of each, the last one by those of last, too.
func (m *maker) loop(first, before, round, end int, last []api.Move, each ...api.Move) {
	states := []int{first}
	for len(states) < before+round {
		states = append(states, m.state(false))
	}
	for i, p := range states {
		next := before
		if i+1 < len(states) {
			next = i + 1
		}
		m.edge(p, step, states[next])
		for _, by := range each {
			m.edge(p, by, end)
		}
		if i+1 == len(states) {
			for _, by := range last {
				m.edge(p, by, end)
			}
		}
	}
}

// looped returns the canonical automaton of a loop alone.
func looped(t *testing.T, before, round int, last []api.Move, each ...api.Move) api.Auto {
	t.Helper()
	m := newMaker()
	m.loop(0, before, round, m.state(true), last, each...)
	return canon(t, m.Auto)
}

// line returns an automaton of one word, with so many states.
func line(states int) api.Auto {
	m := newMaker()
	m.Final[m.path(0, step, states-1)] = true
	return m.Auto
}

// fanned returns the automaton of the words of one of so many letters, from a first one on.
func fanned(first, many int) api.Auto {
	m := newMaker()
	m.fan(0, first, first+many, m.state(true))
	return m.Auto
}

// source returns the same numbers in each run.
func source(n uint64) *rand.Rand { return rand.New(rand.NewPCG(n, 8)) }

// some are the moves of random automata; the last one has no text.
var some = []api.Move{{Kind: api.MoveAsk}, {Id: 1, Kind: api.MoveAsk}, {Id: 1, Kind: api.MoveTell, N: api.Esc}, {Id: 1, Arg: 2, Kind: api.MovePut, N: 3}, {Id: 2, Kind: api.MoveTell}, {Id: -1, Kind: 77, N: -5}}

// anyRaw returns a random raw automaton with so many states at most, and of so many moves.
func anyRaw(r *rand.Rand, states, moves int) api.Auto {
	m := newMaker()
	for range r.IntN(states) {
		m.state(r.IntN(3) == 0)
	}
	m.Final[0] = r.IntN(3) == 0
	for range r.IntN(2*len(m.Next) + 2) {
		m.edge(r.IntN(len(m.Next)), some[r.IntN(moves)], r.IntN(len(m.Next)))
	}
	return m.Auto
}

// anyAuto returns a random canonical automaton.
func anyAuto(r *rand.Rand) api.Auto {
	for {
		if x, e := Canon(anyRaw(r, 6, 1+r.IntN(len(some)))); e == api.OK && (len(x.Next) > 1 || r.IntN(4) == 0) {
			return x
		}
	}
}

// anyWord returns a random word, of some automaton perhaps.
func anyWord(r *rand.Rand, x api.Auto) api.Word {
	var w api.Word
	p := 0
	for range r.IntN(7) {
		l := x.Next[p]
		if len(l) == 0 || r.IntN(8) == 0 {
			return append(w, some[r.IntN(len(some))])
		}
		e := l[r.IntN(len(l))]
		w, p = append(w, e.Move), e.To
	}
	return w
}
